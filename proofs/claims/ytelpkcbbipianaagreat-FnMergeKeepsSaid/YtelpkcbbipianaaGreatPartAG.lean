/-
  What is proved: plain facts on which trees are right, how deep they are and how many nodes they have; the program's nodeOk at every node.; the model's l3Deep and l3Size tell how deep a tree is and how many nodes it has.; the model's l3Leaf and l3Right tell whether a tree is right.; the model's l3Right tells whether a tree is right, its TreeOk whether it is right, not too deep and not too great.
-/
import Derived.Test.YtelpkcbbipianaaGreatPartAF
/- plain facts on which trees are right, how deep they are and how many nodes they have; the program's nodeOk at every node. -/
namespace Go.Proofs.YtelpkcbbipianaaGreat
open Go Go.RowKit

theorem head0 {n : Int} {s : ByteArray} {keys : List ByteArray} {kids : List RT} : HeadOk (.node 0 n s keys kids) ↔ (n = 0 ∧ s = ⟨#[]⟩ ∧ keys.length = 0 ∧ kids.length = 0) := by simp [HeadOk, RT.k, RT.n, RT.s, RT.keys, RT.kids]
theorem head1 {n : Int} {s : ByteArray} {keys : List ByteArray} {kids : List RT} : HeadOk (.node 1 n s keys kids) ↔ ((n = 0 ∨ n = 1) ∧ s = ⟨#[]⟩ ∧ keys.length = 0 ∧ kids.length = 0) := by simp [HeadOk, RT.k, RT.n, RT.s, RT.keys, RT.kids]
theorem head2 {n : Int} {s : ByteArray} {keys : List ByteArray} {kids : List RT} : HeadOk (.node 2 n s keys kids) ↔ ((-1000000000000 ≤ n ∧ n ≤ 1000000000000) ∧ s = ⟨#[]⟩ ∧ keys.length = 0 ∧ kids.length = 0) := by simp [HeadOk, RT.k, RT.n, RT.s, RT.keys, RT.kids]
theorem head3 {n : Int} {s : ByteArray} {keys : List ByteArray} {kids : List RT} : HeadOk (.node 3 n s keys kids) ↔ (n = 0 ∧ textOk s = true ∧ keys.length = 0 ∧ kids.length = 0) := by simp [HeadOk, RT.k, RT.n, RT.s, RT.keys, RT.kids]
theorem head4 {n : Int} {s : ByteArray} {keys : List ByteArray} {kids : List RT} : HeadOk (.node 4 n s keys kids) ↔ (n = 0 ∧ s = ⟨#[]⟩ ∧ keys.length = 0) := by simp [HeadOk, RT.k, RT.n, RT.s, RT.keys, RT.kids]
theorem head5 {n : Int} {s : ByteArray} {keys : List ByteArray} {kids : List RT} : HeadOk (.node 5 n s keys kids) ↔ (n = 0 ∧ s = ⟨#[]⟩ ∧ keys.length = kids.length ∧ keysOk keys = true) := by simp [HeadOk, RT.k, RT.n, RT.s, RT.keys, RT.kids]
theorem head_none {k n : Int} {s : ByteArray} {keys : List ByteArray} {kids : List RT} (h0 : ¬ k = 0) (h1 : ¬ k = 1) (h2 : ¬ k = 2) (h3 : ¬ k = 3) (h4 : ¬ k = 4) (h5 : ¬ k = 5) : ¬ HeadOk (.node k n s keys kids) := by simp [HeadOk, RT.k, h0, h1, h2, h3, h4, h5]

theorem impl_nodeOk (T : RT) (w : World) (kv dv : Value) (F : List Nat) (hl : Lies w T kv dv F) :
    Calls Tryz.prog 26 #[T.val kv dv] w fun e w' => e = .returned (.bool (headOk T)) ∧ Below w.heap.size w w' := by
  obtain ⟨k, n, s, keys, kids⟩ := T
  obtain ⟨-, -, hs, FK, FD, hK, hD, -⟩ := hl.outn
  have hK' := hK
  obtain ⟨ko, kc, rfl⟩ := hK.slice
  obtain ⟨o, dc, rfl⟩ := hD.slice
  show Calls Tryz.prog 26 #[.agg #[.int .i64 k, .int .i64 n, .string s, .slice ko keys.length kc, .slice o kids.length dc]] w _
  by_cases k0 : k = 0
  · subst k0
    by_cases e1 : n = 0
    · by_cases e2 : s = ⟨#[]⟩
      · by_cases e3 : keys.length = 0
        · by_cases e4 : kids.length = 0
          · rw [headOk_yes (head0.2 ⟨e1, e2, e3, e4⟩)]; exact nodeOk_null_good n s ko o _ kc _ dc w e1 e2 e3 e4
          · rw [headOk_no (fun h => e4 (head0.1 h).2.2.2)]; exact nodeOk_null_bad_d n s ko o _ kc _ dc w e1 e2 e3 (by omega)
        · rw [headOk_no (fun h => e3 (head0.1 h).2.2.1)]; exact nodeOk_null_bad_k n s ko o _ kc _ dc w e1 e2 (by omega)
      · rw [headOk_no (fun h => e2 (head0.1 h).2.1)]; exact nodeOk_null_bad_s n s ko o _ kc _ dc w e1 e2
    · rw [headOk_no (fun h => e1 (head0.1 h).1)]; exact nodeOk_null_bad_n n s ko o _ kc _ dc w e1
  by_cases k1 : k = 1
  · subst k1
    by_cases e1 : n = 0 ∨ n = 1
    · by_cases e2 : s = ⟨#[]⟩
      · by_cases e3 : keys.length = 0
        · by_cases e4 : kids.length = 0
          · rw [headOk_yes (head1.2 ⟨e1, e2, e3, e4⟩)]; exact nodeOk_flag_good n s ko o _ kc _ dc w e1 e2 e3 e4
          · rw [headOk_no (fun h => e4 (head1.1 h).2.2.2)]; exact nodeOk_flag_bad_d n s ko o _ kc _ dc w e1 e2 e3 (by omega)
        · rw [headOk_no (fun h => e3 (head1.1 h).2.2.1)]; exact nodeOk_flag_bad_k n s ko o _ kc _ dc w e1 e2 (by omega)
      · rw [headOk_no (fun h => e2 (head1.1 h).2.1)]; exact nodeOk_flag_bad_s n s ko o _ kc _ dc w e1 e2
    · rw [headOk_no (fun h => e1 (head1.1 h).1)]; exact nodeOk_flag_none n s ko o _ kc _ dc w (fun h => e1 (.inl h)) (fun h => e1 (.inr h))
  by_cases k2 : k = 2
  · subst k2
    by_cases e0 : -1000000000000 ≤ n
    · by_cases e1 : n ≤ 1000000000000
      · by_cases e2 : s = ⟨#[]⟩
        · by_cases e3 : keys.length = 0
          · by_cases e4 : kids.length = 0
            · rw [headOk_yes (head2.2 ⟨⟨e0, e1⟩, e2, e3, e4⟩)]; exact nodeOk_int_good n s ko o _ kc _ dc w e0 e1 e2 e3 e4
            · rw [headOk_no (fun h => e4 (head2.1 h).2.2.2)]; exact nodeOk_int_bad_d n s ko o _ kc _ dc w e0 e1 e2 e3 (by omega)
          · rw [headOk_no (fun h => e3 (head2.1 h).2.2.1)]; exact nodeOk_int_bad_k n s ko o _ kc _ dc w e0 e1 e2 (by omega)
        · rw [headOk_no (fun h => e2 (head2.1 h).2.1)]; exact nodeOk_int_bad_s n s ko o _ kc _ dc w e0 e1 e2
      · rw [headOk_no (fun h => e1 (head2.1 h).1.2)]; exact nodeOk_int_high n s ko o _ kc _ dc w e0 e1
    · rw [headOk_no (fun h => e0 (head2.1 h).1.1)]; exact nodeOk_int_low n s ko o _ kc _ dc w e0
  by_cases k3 : k = 3
  · subst k3
    by_cases e2 : textOk s = true
    · by_cases e1 : n = 0
      · by_cases e3 : keys.length = 0
        · by_cases e4 : kids.length = 0
          · rw [headOk_yes (head3.2 ⟨e1, e2, e3, e4⟩)]; exact nodeOk_text_good n s ko o _ kc _ dc w hs e2 e1 e3 e4
          · rw [headOk_no (fun h => e4 (head3.1 h).2.2.2)]; exact nodeOk_text_bad_d n s ko o _ kc _ dc w hs e2 e1 e3 (by omega)
        · rw [headOk_no (fun h => e3 (head3.1 h).2.2.1)]; exact nodeOk_text_bad_k n s ko o _ kc _ dc w hs e2 e1 (by omega)
      · rw [headOk_no (fun h => e1 (head3.1 h).1)]; exact nodeOk_text_bad_n n s ko o _ kc _ dc w hs e2 e1
    · rw [headOk_no (fun h => e2 (head3.1 h).2.1)]; exact nodeOk_text_none n s ko o _ kc _ dc w hs (by simpa using e2)
  by_cases k4 : k = 4
  · subst k4
    by_cases e1 : n = 0
    · by_cases e2 : s = ⟨#[]⟩
      · by_cases e3 : keys.length = 0
        · rw [headOk_yes (head4.2 ⟨e1, e2, e3⟩)]; exact nodeOk_list_good n s ko o _ kc _ dc w e1 e2 e3
        · rw [headOk_no (fun h => e3 (head4.1 h).2.2)]; exact nodeOk_list_bad_k n s ko o _ kc _ dc w e1 e2 (by omega)
      · rw [headOk_no (fun h => e2 (head4.1 h).2.1)]; exact nodeOk_list_bad_s n s ko o _ kc _ dc w e1 e2
    · rw [headOk_no (fun h => e1 (head4.1 h).1)]; exact nodeOk_list_bad_n n s ko o _ kc _ dc w e1
  by_cases k5 : k = 5
  · subst k5
    by_cases e3 : keys.length = kids.length
    · have ff : ∀ w' : World, Below w.heap.size w w' → Calls Tryz.prog 46 #[.iface 109 (.agg #[.slice ko keys.length kc, .slice o kids.length dc])] w' fun e w'' => e = .returned (.bool (keysOk keys)) ∧ Below w'.heap.size w' w'' := fun w' hb => by
        rw [← e3]
        exact formOk_map_yes _ keys FK o dc w' (hK'.stay hb (Nat.le_refl _))
      by_cases e4 : keysOk keys = true
      · rw [e4] at ff
        by_cases e1 : n = 0
        · by_cases e2 : s = ⟨#[]⟩
          · rw [headOk_yes (head5.2 ⟨e1, e2, e3, e4⟩)]; exact nodeOk_map_good n s ko o _ kc _ dc w ff e1 e2
          · rw [headOk_no (fun h => e2 (head5.1 h).2.1)]; exact nodeOk_map_bad_s n s ko o _ kc _ dc w ff e1 e2
        · rw [headOk_no (fun h => e1 (head5.1 h).1)]; exact nodeOk_map_bad_n n s ko o _ kc _ dc w ff e1
      · have e4' : keysOk keys = false := by simpa using e4
        rw [e4'] at ff
        rw [headOk_no (fun h => e4 (head5.1 h).2.2.2)]; exact nodeOk_map_none n s ko o _ kc _ dc w ff
    · rw [headOk_no (fun h => e3 (head5.1 h).2.2.1)]
      exact nodeOk_map_none n s ko o _ kc _ dc w fun w' _ => formOk_map_no ko o _ kc _ dc (by omega) w'
  · rw [headOk_no (head_none k0 k1 k2 k3 k4 k5)]
    exact nodeOk_none k k0 k1 k2 k3 k4 k5 n s ko o _ kc _ dc w

/-! ### Depth, size, rightness -/

mutual
def RT.deep : RT → Nat
  | .node _ _ _ _ kids => deepAll kids + 1
def deepAll : List RT → Nat
  | [] => 0
  | t :: ts => max t.deep (deepAll ts)
end
mutual
def RT.size : RT → Nat
  | .node _ _ _ _ kids => sizeAll kids + 1
def sizeAll : List RT → Nat
  | [] => 0
  | t :: ts => t.size + sizeAll ts
end
mutual
noncomputable def RT.right : RT → Bool
  | .node k n s keys kids => headOk (.node k n s keys kids) && rightAll kids
noncomputable def rightAll : List RT → Bool
  | [] => true
  | t :: ts => t.right && rightAll ts
end

theorem deepAll_take (l : List RT) (i : Nat) (h : i < l.length) : deepAll (l.take (i + 1)) = max (deepAll (l.take i)) l[i].deep := by
  induction l generalizing i with
  | nil => simp at h
  | cons t l ih =>
    cases i with
    | zero => simp [deepAll]
    | succ i =>
      have := ih i (by simpa using h)
      simp only [List.take_succ_cons, deepAll, List.getElem_cons_succ, this]
      omega
theorem deepAll_take_le (l : List RT) (i : Nat) : deepAll (l.take i) ≤ deepAll l := by
  induction l generalizing i with
  | nil => simp
  | cons t l ih =>
    cases i with
    | zero => simp [deepAll]
    | succ i =>
      have := ih i
      simp only [List.take_succ_cons, deepAll]
      omega
theorem sizeAll_take (l : List RT) (i : Nat) (h : i < l.length) : sizeAll (l.take (i + 1)) = sizeAll (l.take i) + l[i].size := by
  induction l generalizing i with
  | nil => simp at h
  | cons t l ih =>
    cases i with
    | zero => simp [sizeAll]
    | succ i =>
      have := ih i (by simpa using h)
      simp only [List.take_succ_cons, sizeAll, List.getElem_cons_succ, this]
      omega
theorem sizeAll_take_le (l : List RT) (i : Nat) : sizeAll (l.take i) ≤ sizeAll l := by
  induction l generalizing i with
  | nil => simp
  | cons t l ih =>
    cases i with
    | zero => simp [sizeAll]
    | succ i =>
      have := ih i
      simp only [List.take_succ_cons, sizeAll]
      omega
theorem rightAll_iff (l : List RT) : rightAll l = true ↔ ∀ i (h : i < l.length), l[i].right = true := by
  induction l with
  | nil => simp [rightAll]
  | cons t l ih =>
    rw [rightAll, Bool.and_eq_true, ih]
    constructor
    · rintro ⟨h1, h2⟩ i hi
      cases i with
      | zero => exact h1
      | succ i => exact h2 i (by simpa using hi)
    · intro h
      exact ⟨h 0 (by simp), fun i hi => h (i + 1) (by simpa using hi)⟩

theorem deep_sz (T : RT) : T.deep ≤ T.sz + 1 := by
  induction T using RT.ind with
  | h k n s keys kids ih =>
    have h : ∀ l : List RT, (∀ t ∈ l, t.deep ≤ t.sz + 1) → deepAll l ≤ l.length + szAll l := by
      intro l hl
      induction l with
      | nil => simp [deepAll]
      | cons t l ihl =>
        have h1 := hl t (by simp)
        have h2 := ihl (fun x hx => hl x (by simp [hx]))
        simp only [deepAll, szAll, List.length_cons]
        omega
    have := h kids ih
    simp only [RT.deep, RT.sz]
    omega
theorem size_sz (T : RT) : T.size ≤ T.sz + 1 := by
  induction T using RT.ind with
  | h k n s keys kids ih =>
    have h : ∀ l : List RT, (∀ t ∈ l, t.size ≤ t.sz + 1) → sizeAll l ≤ l.length + szAll l := by
      intro l hl
      induction l with
      | nil => simp [sizeAll]
      | cons t l ihl =>
        have h1 := hl t (by simp)
        have h2 := ihl (fun x hx => hl x (by simp [hx]))
        simp only [sizeAll, szAll, List.length_cons]
        omega
    have := h kids ih
    simp only [RT.size, RT.sz]
    omega

end Go.Proofs.YtelpkcbbipianaaGreat

/- the model's l3Deep and l3Size tell how deep a tree is and how many nodes it has. -/
namespace Go.Proofs.YtelpkcbbipianaaGreat
open Go Go.RowKit

def DeepAt (T : RT) : Prop := ∀ (w : World) (kv dv : Value) (F : List Nat), Lies w T kv dv F → T.sz ≤ 1048576 →
  Calls Tryz.prog 13 #[T.val kv dv] w fun e w' => e = .returned (.int .i64 (T.deep : Nat)) ∧ Below w.heap.size w w'
def SizeAt (T : RT) : Prop := ∀ (w : World) (kv dv : Value) (F : List Nat), Lies w T kv dv F → T.sz ≤ 1048576 →
  Calls Tryz.prog 14 #[T.val kv dv] w fun e w' => e = .returned (.int .i64 (T.size : Nat)) ∧ Below w.heap.size w w'

set_option maxHeartbeats 400000 in
theorem spec_max (a b : Nat) (w : World) : Calls Tryz.prog 27 #[.int .i64 (a : Nat), .int .i64 (b : Nat)] w fun e w' => e = .returned (.int .i64 (max a b : Nat)) ∧ w' = w := by
  by_cases h : (a : Int) > b
  · go_enter Tryz.func27, Tryz.ntmps27
    go_wp2
    go_ret
    exact ⟨ret_int (by omega), rfl⟩
  · go_enter Tryz.func27, Tryz.ntmps27
    go_wp2
    go_ret
    exact ⟨ret_int (by omega), rfl⟩

set_option maxRecDepth 100000 in
set_option maxHeartbeats 800000 in
theorem spec_deep (T : RT) : DeepAt T := by
  induction T using RT.ind with
  | h k n s keys kids ih =>
    intro w kv dv F hl hsz
    have hdp := deep_sz (.node k n s keys kids)
    obtain ⟨-, -, -, FK, FD, -, hD, -⟩ := hl.outn
    obtain ⟨o, cap, b, off, FF, KV, DV, rfl, hlc, hcm, ho, -, hcell, hlies, -⟩ := hD
    have hsk : ∀ t ∈ kids, t.sz ≤ 1048576 := fun t ht => by
      have := sz_take kids ht
      simp only [RT.sz] at hsz
      omega
    simp only [RT.deep] at hdp
    have hdb : deepAll kids ≤ 1048576 := by omega
    have HX := Lib.hid (Box.start w (.int .i64 k) (.int .i64 n) (.string s) kv (.slice o kids.length cap) 27)
    have HC := Lib.hid hcell
    have HL := Lib.hid hlies
    have HO := Lib.hid ho
    clear hcell hlies ho hl hdp hsz
    unfold maxLen at hcm
    show Calls Tryz.prog 13 #[.agg #[.int .i64 k, .int .i64 n, .string s, kv, .slice o kids.length cap]] w fun e w' => e = .returned (.int .i64 (deepAll kids + 1 : Nat)) ∧ Below w.heap.size w w'
    go_enter Tryz.func13, Tryz.ntmps13
    go_wp2
    go_loopw [3, 4] (fun m i wr => ∃ j : Nat, j ≤ kids.length ∧ i = .int .i64 j ∧ m = .int .i64 (deepAll (kids.take j) : Nat) ∧ Hid (Box w wr (.int .i64 k) (.int .i64 n) (.string s) kv (.slice o kids.length cap))) (fun _ i _ => kids.length - (intOf i).toNat)
    case atStart => exact ⟨0, Nat.zero_le _, rfl, by simp [deepAll], HX.out⟩
    case round =>
      obtain ⟨j, hj, rfl, rfl, hx⟩ := hrel
      obtain ⟨hb, -, x0, x1, x2, x3, x4⟩ := hx.out
      by_cases hlt : j < kids.length
      · have ho := HO.out (by omega)
        subst ho
        obtain ⟨c0, c1, c2, c3, c4⟩ := kid_cells (HC.out j hlt) hb
        have HI := Lib.hid (ih _ (List.getElem_mem hlt) wr _ _ _ ((HL.out j hlt).stay hb (Nat.le_refl _)) (hsk _ (List.getElem_mem hlt)))
        have HE := Lib.hid (deepAll_take kids j hlt)
        generalize kids[j] = x at *
        have HM := Lib.hid (spec_max (deepAll (kids.take j)) x.deep)
        clear hb
        go_wp2_with (first
          | (go_at_call 13; refine HI.out.mono ?_; rintro e w1 ⟨rfl, hb1⟩; have HB1 := Lib.hid hb1; clear hb1)
          | (go_at_call 27; refine (HM.out _).mono ?_; rintro e w2 ⟨rfl, e2⟩; subst e2)
          | go_in)
        exact ⟨⟨j + 1, by omega, by go_num, by rw [HE.out], hx.out.next HB1.out⟩, by simp [intOf]; omega⟩
      · have e : kids.take j = kids := List.take_of_length_le (by omega)
        rw [e]
        have HB := Lib.hid hb
        clear hb
        go_wp2
        go_ret
        exact ⟨ret_int (by omega), HB.out⟩

set_option maxRecDepth 100000 in
set_option maxHeartbeats 800000 in
theorem spec_size (T : RT) : SizeAt T := by
  induction T using RT.ind with
  | h k n s keys kids ih =>
    intro w kv dv F hl hsz
    have hdp := size_sz (.node k n s keys kids)
    obtain ⟨-, -, -, FK, FD, -, hD, -⟩ := hl.outn
    obtain ⟨o, cap, b, off, FF, KV, DV, rfl, hlc, hcm, ho, -, hcell, hlies, -⟩ := hD
    have hsk : ∀ t ∈ kids, t.sz ≤ 1048576 := fun t ht => by
      have := sz_take kids ht
      simp only [RT.sz] at hsz
      omega
    simp only [RT.size] at hdp
    have hdb : sizeAll kids ≤ 1048576 := by omega
    have HX := Lib.hid (Box.start w (.int .i64 k) (.int .i64 n) (.string s) kv (.slice o kids.length cap) 27)
    have HC := Lib.hid hcell
    have HL := Lib.hid hlies
    have HO := Lib.hid ho
    clear hcell hlies ho hl hdp hsz
    unfold maxLen at hcm
    show Calls Tryz.prog 14 #[.agg #[.int .i64 k, .int .i64 n, .string s, kv, .slice o kids.length cap]] w fun e w' => e = .returned (.int .i64 (sizeAll kids + 1 : Nat)) ∧ Below w.heap.size w w'
    go_enter Tryz.func14, Tryz.ntmps14
    go_wp2
    go_loopw [3, 4] (fun m i wr => ∃ j : Nat, j ≤ kids.length ∧ i = .int .i64 j ∧ m = .int .i64 (sizeAll (kids.take j) + 1 : Nat) ∧ Hid (Box w wr (.int .i64 k) (.int .i64 n) (.string s) kv (.slice o kids.length cap))) (fun _ i _ => kids.length - (intOf i).toNat)
    case atStart => exact ⟨0, Nat.zero_le _, rfl, by simp [sizeAll], HX.out⟩
    case round =>
      obtain ⟨j, hj, rfl, rfl, hx⟩ := hrel
      obtain ⟨hb, -, x0, x1, x2, x3, x4⟩ := hx.out
      by_cases hlt : j < kids.length
      · have ho := HO.out (by omega)
        subst ho
        obtain ⟨c0, c1, c2, c3, c4⟩ := kid_cells (HC.out j hlt) hb
        have HI := Lib.hid (ih _ (List.getElem_mem hlt) wr _ _ _ ((HL.out j hlt).stay hb (Nat.le_refl _)) (hsk _ (List.getElem_mem hlt)))
        have he := sizeAll_take kids j hlt
        have hle := sizeAll_take_le kids (j + 1)
        generalize kids[j] = x at *
        have HE := Lib.hid he
        have hbd : sizeAll (kids.take j) + x.size ≤ 1048576 := by omega
        clear hb he hle
        go_wp2_with (first
          | (go_at_call 14; refine HI.out.mono ?_; rintro e w1 ⟨rfl, hb1⟩; have HB1 := Lib.hid hb1; clear hb1)
          | go_in)
        exact ⟨⟨j + 1, by omega, by go_num, by rw [HE.out]; congr 1; omega, hx.out.next HB1.out⟩, by simp [intOf]; omega⟩
      · have e : kids.take j = kids := List.take_of_length_le (by omega)
        rw [e]
        have HB := Lib.hid hb
        clear hb
        go_wp2
        go_ret
        exact ⟨ret_int (by omega), HB.out⟩
end Go.Proofs.YtelpkcbbipianaaGreat

/- the model's l3Leaf and l3Right tell whether a tree is right. -/
namespace Go.Proofs.YtelpkcbbipianaaGreat
open Go Go.RowKit

section
variable (n : Int) (s : ByteArray) (ko o : Option Addr) (kl kc dl dc : Nat) (w : World)

set_option maxRecDepth 100000 in
set_option maxHeartbeats 800000 in
theorem leaf_kids (k : Int) (h : 0 < dl) (hm : dl ≤ maxLen) : Calls Tryz.prog 28 #[.agg #[.int .i64 k, .int .i64 n, .string s, .slice ko kl kc, .slice o dl dc]] w fun e w' => e = .returned (.bool false) ∧ Below w.heap.size w w' := by
  unfold maxLen at hm
  have h' : (0 : Int) < dl := by omega
  go_enter Tryz.func28, Tryz.ntmps28
  go_wp2
  go_ret
  exact ⟨rfl, (Below.refl _ w).alloc (Nat.le_refl _) _⟩

set_option maxRecDepth 100000 in
set_option maxHeartbeats 800000 in
theorem leaf_keys (k : Int) (h : 0 < kl) (hm : kl ≤ maxLen) : Calls Tryz.prog 28 #[.agg #[.int .i64 k, .int .i64 n, .string s, .slice ko kl kc, .slice o 0 dc]] w fun e w' => e = .returned (.bool false) ∧ Below w.heap.size w w' := by
  unfold maxLen at hm
  have h' : (0 : Int) < kl := by omega
  go_enter Tryz.func28, Tryz.ntmps28
  go_wp2
  go_ret
  exact ⟨rfl, (Below.refl _ w).alloc (Nat.le_refl _) _⟩

set_option maxRecDepth 100000 in
set_option maxHeartbeats 1600000 in
theorem leaf_head (k : Int) (hs : s.size ≤ maxLen) (h4 : ¬ k = 4) (h5 : ¬ k = 5) : Calls Tryz.prog 28 #[.agg #[.int .i64 k, .int .i64 n, .string s, .slice ko 0 kc, .slice o 0 dc]] w fun e w' => e = .returned (.bool (headOk (.node k n s [] []))) ∧ Below w.heap.size w w' := by
  by_cases k0 : k = 0
  · subst k0
    by_cases e1 : n = 0
    · by_cases e2 : s = ⟨#[]⟩
      · subst e1 e2
        rw [headOk_yes (head0.2 ⟨rfl, rfl, rfl, rfl⟩)]
        clear hs h4 h5
        go_enter Tryz.func28, Tryz.ntmps28
        go_wp2
        go_ret
        exact ⟨rfl, (Below.refl _ w).alloc (Nat.le_refl _) _⟩
      · subst e1
        rw [headOk_no (fun h => e2 (head0.1 h).2.1)]
        have hs1 := bytes_ne e2
        have hs2 := empty_ne e2
        clear hs h4 h5
        go_enter Tryz.func28, Tryz.ntmps28
        go_wp2
        go_ret
        exact ⟨by first | rfl | (exact ret_bool (by simp [hs2])), (Below.refl _ w).alloc (Nat.le_refl _) _⟩
    · rw [headOk_no (fun h => e1 (head0.1 h).1)]
      clear hs h4 h5
      go_enter Tryz.func28, Tryz.ntmps28
      go_wp2
      go_ret
      exact ⟨rfl, (Below.refl _ w).alloc (Nat.le_refl _) _⟩
  by_cases k1 : k = 1
  · subst k1
    by_cases e0 : 0 ≤ n
    · by_cases e1 : n ≤ 1
      · by_cases e2 : s = ⟨#[]⟩
        · subst e2
          rw [headOk_yes (head1.2 ⟨by omega, rfl, rfl, rfl⟩)]
          clear hs h4 h5 k0
          go_enter Tryz.func28, Tryz.ntmps28
          go_wp2
          go_ret
          exact ⟨rfl, (Below.refl _ w).alloc (Nat.le_refl _) _⟩
        · rw [headOk_no (fun h => e2 (head1.1 h).2.1)]
          have hs1 := bytes_ne e2
          have hs2 := empty_ne e2
          clear hs h4 h5 k0
          go_enter Tryz.func28, Tryz.ntmps28
          go_wp2
          go_ret
          exact ⟨by first | rfl | (exact ret_bool (by simp [hs2])), (Below.refl _ w).alloc (Nat.le_refl _) _⟩
      · rw [headOk_no (fun h => by have := (head1.1 h).1; omega)]
        clear hs h4 h5 k0
        go_enter Tryz.func28, Tryz.ntmps28
        go_wp2
        go_ret
        exact ⟨rfl, (Below.refl _ w).alloc (Nat.le_refl _) _⟩
    · rw [headOk_no (fun h => by have := (head1.1 h).1; omega)]
      clear hs h4 h5 k0
      go_enter Tryz.func28, Tryz.ntmps28
      go_wp2
      go_ret
      exact ⟨rfl, (Below.refl _ w).alloc (Nat.le_refl _) _⟩
  by_cases k2 : k = 2
  · subst k2
    by_cases e0 : -1000000000000 ≤ n
    · by_cases e1 : n ≤ 1000000000000
      · by_cases e2 : s = ⟨#[]⟩
        · subst e2
          rw [headOk_yes (head2.2 ⟨⟨e0, e1⟩, rfl, rfl, rfl⟩)]
          clear hs h4 h5 k0 k1
          go_enter Tryz.func28, Tryz.ntmps28
          go_wp2
          go_ret
          exact ⟨rfl, (Below.refl _ w).alloc (Nat.le_refl _) _⟩
        · rw [headOk_no (fun h => e2 (head2.1 h).2.1)]
          have hs1 := bytes_ne e2
          have hs2 := empty_ne e2
          clear hs h4 h5 k0 k1
          go_enter Tryz.func28, Tryz.ntmps28
          go_wp2
          go_ret
          exact ⟨by first | rfl | (exact ret_bool (by simp [hs2])), (Below.refl _ w).alloc (Nat.le_refl _) _⟩
      · rw [headOk_no (fun h => e1 (head2.1 h).1.2)]
        clear hs h4 h5 k0 k1
        go_enter Tryz.func28, Tryz.ntmps28
        go_wp2
        go_ret
        exact ⟨rfl, (Below.refl _ w).alloc (Nat.le_refl _) _⟩
    · rw [headOk_no (fun h => e0 (head2.1 h).1.1)]
      clear hs h4 h5 k0 k1
      go_enter Tryz.func28, Tryz.ntmps28
      go_wp2
      go_ret
      exact ⟨rfl, (Below.refl _ w).alloc (Nat.le_refl _) _⟩
  by_cases k3 : k = 3
  · subst k3
    have HT := Lib.hid (spec_textOk s hs)
    by_cases e1 : n = 0
    · subst e1
      have e : headOk (.node 3 0 s [] []) = textOk s := by
        by_cases ht : textOk s = true
        · rw [ht, headOk_yes (head3.2 ⟨rfl, ht, rfl, rfl⟩)]
        · have ht' : textOk s = false := by simpa using ht
          rw [ht', headOk_no (fun h => ht (head3.1 h).2.1)]
      rw [e]
      clear hs h4 h5 k0 k1 k2 e
      generalize textOk s = tb at *
      go_enter Tryz.func28, Tryz.ntmps28
      go_wp2_with (first | (go_at_call 48; refine (HT.out _).mono ?_; rintro e w1 ⟨rfl, e1⟩; subst e1) | go_in)
      go_ret
      exact ⟨rfl, (Below.refl _ w).alloc (Nat.le_refl _) _⟩
    · rw [headOk_no (fun h => e1 (head3.1 h).1)]
      clear hs h4 h5 k0 k1 k2
      go_enter Tryz.func28, Tryz.ntmps28
      go_wp2
      go_ret
      exact ⟨rfl, (Below.refl _ w).alloc (Nat.le_refl _) _⟩
  · rw [headOk_no (head_none k0 k1 k2 k3 h4 h5)]
    clear hs h4 h5
    go_enter Tryz.func28, Tryz.ntmps28
    go_wp2
    go_ret
    exact ⟨rfl, (Below.refl _ w).alloc (Nat.le_refl _) _⟩
end
end Go.Proofs.YtelpkcbbipianaaGreat

/- the model's l3Right tells whether a tree is right, its TreeOk whether it is right, not too deep and not too great. -/
namespace Go.Proofs.YtelpkcbbipianaaGreat
open Go Go.RowKit

def RightAt (T : RT) : Prop := ∀ (w : World) (kv dv : Value) (F : List Nat), Lies w T kv dv F → Calls Tryz.prog 15 #[T.val kv dv] w fun e w' => e = .returned (.bool T.right) ∧ Below w.heap.size w w'

theorem right_head_no {T : RT} (h : headOk T = false) : T.right = false := by
  obtain ⟨k, n, s, keys, kids⟩ := T
  rw [RT.right, h, Bool.false_and]
theorem right_kids {k n : Int} {s : ByteArray} {keys : List ByteArray} {kids : List RT} (h : headOk (.node k n s keys kids) = true) : (RT.node k n s keys kids).right = rightAll kids := by
  rw [RT.right, h, Bool.true_and]

section
variable (n : Int) (s : ByteArray) (ko o : Option Addr) (kl kc dl dc : Nat) (w : World)

set_option maxRecDepth 100000 in
set_option maxHeartbeats 800000 in
theorem right4_bad_n (h : ¬ n = 0) : Calls Tryz.prog 15 #[.agg #[.int .i64 4, .int .i64 n, .string s, .slice ko kl kc, .slice o dl dc]] w fun e w' => e = .returned (.bool false) ∧ Below w.heap.size w w' := by
  go_enter Tryz.func15, Tryz.ntmps15
  go_wp2
  go_ret
  exact ⟨rfl, (Below.refl _ w).alloc (Nat.le_refl _) _⟩

set_option maxRecDepth 100000 in
set_option maxHeartbeats 800000 in
theorem right4_bad_s (h : ¬ s = ⟨#[]⟩) : Calls Tryz.prog 15 #[.agg #[.int .i64 4, .int .i64 0, .string s, .slice ko kl kc, .slice o dl dc]] w fun e w' => e = .returned (.bool false) ∧ Below w.heap.size w w' := by
  have h1 := bytes_ne h
  have h2 := empty_ne h
  go_enter Tryz.func15, Tryz.ntmps15
  go_wp2
  go_ret
  exact ⟨rfl, (Below.refl _ w).alloc (Nat.le_refl _) _⟩

set_option maxRecDepth 100000 in
set_option maxHeartbeats 800000 in
theorem right5_bad_n (h : ¬ n = 0) : Calls Tryz.prog 15 #[.agg #[.int .i64 5, .int .i64 n, .string s, .slice ko kl kc, .slice o dl dc]] w fun e w' => e = .returned (.bool false) ∧ Below w.heap.size w w' := by
  go_enter Tryz.func15, Tryz.ntmps15
  go_wp2
  go_ret
  exact ⟨rfl, (Below.refl _ w).alloc (Nat.le_refl _) _⟩

set_option maxRecDepth 100000 in
set_option maxHeartbeats 800000 in
theorem right5_bad_s (h : ¬ s = ⟨#[]⟩) : Calls Tryz.prog 15 #[.agg #[.int .i64 5, .int .i64 0, .string s, .slice ko kl kc, .slice o dl dc]] w fun e w' => e = .returned (.bool false) ∧ Below w.heap.size w w' := by
  have h1 := bytes_ne h
  have h2 := empty_ne h
  go_enter Tryz.func15, Tryz.ntmps15
  go_wp2
  go_ret
  exact ⟨rfl, (Below.refl _ w).alloc (Nat.le_refl _) _⟩

set_option maxRecDepth 100000 in
set_option maxHeartbeats 800000 in
theorem right4_bad_k (h : 0 < kl) (hm : kl ≤ maxLen) : Calls Tryz.prog 15 #[.agg #[.int .i64 4, .int .i64 0, .string ⟨#[]⟩, .slice ko kl kc, .slice o dl dc]] w fun e w' => e = .returned (.bool false) ∧ Below w.heap.size w w' := by
  unfold maxLen at hm
  have h' : (0 : Int) < kl := by omega
  go_enter Tryz.func15, Tryz.ntmps15
  go_wp2
  go_ret
  exact ⟨rfl, (Below.refl _ w).alloc (Nat.le_refl _) _⟩

set_option maxRecDepth 100000 in
set_option maxHeartbeats 800000 in
theorem right5_bad_k (h : ¬ (kl : Int) = dl) : Calls Tryz.prog 15 #[.agg #[.int .i64 5, .int .i64 0, .string ⟨#[]⟩, .slice ko kl kc, .slice o dl dc]] w fun e w' => e = .returned (.bool false) ∧ Below w.heap.size w w' := by
  go_enter Tryz.func15, Tryz.ntmps15
  go_wp2
  go_ret
  exact ⟨rfl, (Below.refl _ w).alloc (Nat.le_refl _) _⟩

set_option maxRecDepth 100000 in
set_option maxHeartbeats 800000 in
theorem right5_bad_keys {kv : Value} {keys : List ByteArray} {FK : List Nat} (hK : StrsAt w kv keys FK) (h : keysOk keys = false) : Calls Tryz.prog 15 #[.agg #[.int .i64 5, .int .i64 0, .string ⟨#[]⟩, kv, .slice o keys.length dc]] w fun e w' => e = .returned (.bool false) ∧ Below w.heap.size w w' := by
  have HX := Lib.hid (Box.start w (.int .i64 5) (.int .i64 0) (.string ⟨#[]⟩) kv (.slice o keys.length dc) 27)
  have HT := Lib.hid (spec_keys _ (hK.stay HX.out.below (Nat.le_refl _)))
  rw [h] at HT
  obtain ⟨ko, kc, rfl⟩ := hK.slice
  clear hK h
  go_enter Tryz.func15, Tryz.ntmps15
  go_wp2_with (first | (go_at_call 29; refine HT.out.mono ?_; rintro e w1 ⟨rfl, hb1⟩; have HB := Lib.hid (HX.out.next hb1).below; clear hb1) | fail)
  go_ret
  exact ⟨rfl, HB.out⟩

end

set_option maxRecDepth 100000 in
set_option maxHeartbeats 1600000 in
theorem right4_good {kids : List RT} (ih : ∀ t ∈ kids, RightAt t) (w : World) (ko : Option Addr) (kc : Nat) {dv : Value} {F : List Nat} (hD : KidsLie w dv kids F) :
    Calls Tryz.prog 15 #[.agg #[.int .i64 4, .int .i64 0, .string ⟨#[]⟩, .slice ko 0 kc, dv]] w fun e w' => e = .returned (.bool (rightAll kids)) ∧ Below w.heap.size w w' := by
  obtain ⟨o, cap, b, off, FF, KV, DV, rfl, hlc, hcm, ho, -, hcell, hlies, -⟩ := hD
  have HX := Lib.hid (Box.start w (.int .i64 4) (.int .i64 0) (.string ⟨#[]⟩) (.slice ko 0 kc) (.slice o kids.length cap) 27)
  have HC := Lib.hid hcell
  have HL := Lib.hid hlies
  have HO := Lib.hid ho
  clear hcell hlies ho
  unfold maxLen at hcm
  go_enter Tryz.func15, Tryz.ntmps15
  go_wp2
  go_loopw [3] (fun i wr => ∃ j : Nat, j ≤ kids.length ∧ i = .int .i64 j ∧ Hid (∀ i (h : i < kids.length), i < j → kids[i].right = true) ∧ Hid (Box w wr (.int .i64 4) (.int .i64 0) (.string ⟨#[]⟩) (.slice ko 0 kc) (.slice o kids.length cap))) (fun i _ => kids.length - (intOf i).toNat)
  case atStart => exact ⟨0, Nat.zero_le _, rfl, fun i _ h => absurd h (by omega), HX.out⟩
  case round =>
    obtain ⟨j, hj, rfl, hr, hx⟩ := hrel
    obtain ⟨hb, -, x0, x1, x2, x3, x4⟩ := hx.out
    by_cases hlt : j < kids.length
    · have ho := HO.out (by omega)
      subst ho
      obtain ⟨c0, c1, c2, c3, c4⟩ := kid_cells (HC.out j hlt) hb
      have HI := Lib.hid (ih _ (List.getElem_mem hlt) wr _ _ _ ((HL.out j hlt).stay hb (Nat.le_refl _)))
      by_cases hrt : kids[j].right = true
      · have HY : Hid (∀ i (h : i < kids.length), i < j + 1 → kids[i].right = true) := fun i h hi => by
          by_cases e : i = j
          · subst e; exact hrt
          · exact hr.out i h (by omega)
        rw [hrt] at HI
        clear hb hrt
        generalize kids[j] = x at *
        go_wp2_with (first
          | (go_at_call 15; refine HI.out.mono ?_; rintro e w1 ⟨rfl, hb1⟩; have HB1 := Lib.hid hb1; clear hb1)
          | go_in)
        exact ⟨⟨j + 1, by omega, by go_num, HY.out, hx.out.next HB1.out⟩, by simp [intOf]; omega⟩
      · have HN : Hid (rightAll kids = false) := by
          show rightAll kids = false
          rw [← Bool.not_eq_true, rightAll_iff]
          exact fun h => hrt (h j hlt)
        have hrt' : kids[j].right = false := by simpa using hrt
        rw [hrt'] at HI
        clear hb hrt hrt'
        generalize kids[j] = x at *
        go_wp2_with (first
          | (go_at_call 15; refine HI.out.mono ?_; rintro e w1 ⟨rfl, hb1⟩; have HB1 := Lib.hid (hx.out.next hb1).below; clear hb1)
          | go_in)
        go_ret
        exact ⟨by rw [HN.out]; rfl, HB1.out⟩
    · have HY : Hid (rightAll kids = true) := (rightAll_iff kids).2 fun i h => hr.out i h (by omega)
      have HB := Lib.hid hb
      clear hb
      go_wp2
      go_ret
      exact ⟨by rw [HY.out]; rfl, HB.out⟩

set_option maxRecDepth 100000 in
set_option maxHeartbeats 1600000 in
theorem right5_good {kids : List RT} (ih : ∀ t ∈ kids, RightAt t) (w : World) (ko : Option Addr) (kc : Nat) {dv : Value} {F : List Nat} (hD : KidsLie w dv kids F) {keys : List ByteArray} {FK : List Nat} (hK : StrsAt w (.slice ko kids.length kc) keys FK) (hk : keysOk keys = true) :
    Calls Tryz.prog 15 #[.agg #[.int .i64 5, .int .i64 0, .string ⟨#[]⟩, .slice ko kids.length kc, dv]] w fun e w' => e = .returned (.bool (rightAll kids)) ∧ Below w.heap.size w w' := by
  obtain ⟨o, cap, b, off, FF, KV, DV, rfl, hlc, hcm, ho, -, hcell, hlies, -⟩ := hD
  have HX := Lib.hid (Box.start w (.int .i64 5) (.int .i64 0) (.string ⟨#[]⟩) (.slice ko kids.length kc) (.slice o kids.length cap) 27)
  have HC := Lib.hid hcell
  have HL := Lib.hid hlies
  have HO := Lib.hid ho
  clear hcell hlies ho
  unfold maxLen at hcm
  have HT := Lib.hid (spec_keys _ (hK.stay HX.out.below (Nat.le_refl _)))
  rw [hk] at HT
  clear hK hk
  go_enter Tryz.func15, Tryz.ntmps15
  go_wp2_with (first | (go_at_call 29; refine HT.out.mono ?_; rintro e w1 ⟨rfl, hb1⟩; have HX1 := Lib.hid (HX.out.next hb1); clear hb1) | fail)
  go_loopw [3] (fun i wr => ∃ j : Nat, j ≤ kids.length ∧ i = .int .i64 j ∧ Hid (∀ i (h : i < kids.length), i < j → kids[i].right = true) ∧ Hid (Box w wr (.int .i64 5) (.int .i64 0) (.string ⟨#[]⟩) (.slice ko kids.length kc) (.slice o kids.length cap))) (fun i _ => kids.length - (intOf i).toNat)
  case atStart => exact ⟨0, Nat.zero_le _, rfl, fun i _ h => absurd h (by omega), HX1.out⟩
  case round =>
    obtain ⟨j, hj, rfl, hr, hx⟩ := hrel
    obtain ⟨hb, -, x0, x1, x2, x3, x4⟩ := hx.out
    by_cases hlt : j < kids.length
    · have ho := HO.out (by omega)
      subst ho
      obtain ⟨c0, c1, c2, c3, c4⟩ := kid_cells (HC.out j hlt) hb
      have HI := Lib.hid (ih _ (List.getElem_mem hlt) wr _ _ _ ((HL.out j hlt).stay hb (Nat.le_refl _)))
      by_cases hrt : kids[j].right = true
      · have HY : Hid (∀ i (h : i < kids.length), i < j + 1 → kids[i].right = true) := fun i h hi => by
          by_cases e : i = j
          · subst e; exact hrt
          · exact hr.out i h (by omega)
        rw [hrt] at HI
        clear hb hrt
        generalize kids[j] = x at *
        go_wp2_with (first
          | (go_at_call 15; refine HI.out.mono ?_; rintro e w1 ⟨rfl, hb1⟩; have HB1 := Lib.hid hb1; clear hb1)
          | go_in)
        exact ⟨⟨j + 1, by omega, by go_num, HY.out, hx.out.next HB1.out⟩, by simp [intOf]; omega⟩
      · have HN : Hid (rightAll kids = false) := by
          show rightAll kids = false
          rw [← Bool.not_eq_true, rightAll_iff]
          exact fun h => hrt (h j hlt)
        have hrt' : kids[j].right = false := by simpa using hrt
        rw [hrt'] at HI
        clear hb hrt hrt'
        generalize kids[j] = x at *
        go_wp2_with (first
          | (go_at_call 15; refine HI.out.mono ?_; rintro e w1 ⟨rfl, hb1⟩; have HB1 := Lib.hid (hx.out.next hb1).below; clear hb1)
          | go_in)
        go_ret
        exact ⟨by rw [HN.out]; rfl, HB1.out⟩
    · have HY : Hid (rightAll kids = true) := (rightAll_iff kids).2 fun i h => hr.out i h (by omega)
      have HB := Lib.hid hb
      clear hb
      go_wp2
      go_ret
      exact ⟨by rw [HY.out]; rfl, HB.out⟩

set_option maxRecDepth 100000 in
set_option maxHeartbeats 800000 in
theorem right_leaf (k n : Int) (s : ByteArray) (ko o : Option Addr) (kl kc dl dc : Nat) (r : Bool) (k4 : ¬ k = 4) (k5 : ¬ k = 5) (w : World)
    (hx : Box w (w.alloc (.cells #[.int .i64 k, .int .i64 n, .string s, .slice ko kl kc, .slice o dl dc] 27)) (.int .i64 k) (.int .i64 n) (.string s) (.slice ko kl kc) (.slice o dl dc))
    (hl : ∀ w : World, Calls Tryz.prog 28 #[.agg #[.int .i64 k, .int .i64 n, .string s, .slice ko kl kc, .slice o dl dc]] w fun e w' => e = .returned (.bool r) ∧ Below w.heap.size w w') :
    Calls Tryz.prog 15 #[.agg #[.int .i64 k, .int .i64 n, .string s, .slice ko kl kc, .slice o dl dc]] w fun e w' => e = .returned (.bool r) ∧ Below w.heap.size w w' := by
  have HX := Lib.hid hx
  have HL := Lib.hid hl
  have q4 : (k != 4) = true := by simpa using k4
  have q5 : (k != 5) = true := by simpa using k5
  clear hx hl
  go_enter Tryz.func15, Tryz.ntmps15
  go_wp2_with (first | (go_at_call 28; refine (HL.out _).mono ?_; rintro e w1 ⟨rfl, hb1⟩; have HB := Lib.hid (HX.out.next hb1).below; clear hb1) | fail)
  go_ret
  exact ⟨rfl, HB.out⟩

theorem spec_right (T : RT) : RightAt T := by
  induction T using RT.ind with
  | h k n s keys kids ih =>
    intro w kv dv F hl
    obtain ⟨-, -, hs, FK, FD, hK, hD, -⟩ := hl.outn
    have hK' := hK
    have hD' := hD
    obtain ⟨ko, kc, kb, kof, rfl, hkl, hkm, -, -, -⟩ := hK
    obtain ⟨o, dc, b, off, FF, KV, DV, rfl, hdl, hdm, -, -, -, -⟩ := hD
    show Calls Tryz.prog 15 #[.agg #[.int .i64 k, .int .i64 n, .string s, .slice ko keys.length kc, .slice o kids.length dc]] w _
    have hkm' : keys.length ≤ maxLen := Nat.le_trans hkl hkm
    have hdm' : kids.length ≤ maxLen := Nat.le_trans hdl hdm
    by_cases k4 : k = 4
    · subst k4
      by_cases e1 : n = 0
      · by_cases e2 : s = ⟨#[]⟩
        · by_cases e3 : keys.length = 0
          · rw [right_kids (headOk_yes (head4.2 ⟨e1, e2, e3⟩)), e1, e2, e3]
            exact right4_good ih w ko kc hD'
          · rw [right_head_no (headOk_no (fun h => e3 (head4.1 h).2.2)), e1, e2]
            exact right4_bad_k ko o _ kc _ dc w (by omega) hkm'
        · rw [right_head_no (headOk_no (fun h => e2 (head4.1 h).2.1)), e1]
          exact right4_bad_s s ko o _ kc _ dc w e2
      · rw [right_head_no (headOk_no (fun h => e1 (head4.1 h).1))]
        exact right4_bad_n n s ko o _ kc _ dc w e1
    by_cases k5 : k = 5
    · subst k5
      by_cases e1 : n = 0
      · by_cases e2 : s = ⟨#[]⟩
        · by_cases e3 : keys.length = kids.length
          · by_cases e4 : keysOk keys = true
            · rw [right_kids (headOk_yes (head5.2 ⟨e1, e2, e3, e4⟩)), e1, e2, e3]
              rw [e3] at hK'
              exact right5_good ih w ko kc hD' hK' e4
            · rw [right_head_no (headOk_no (fun h => e4 (head5.1 h).2.2.2)), e1, e2, ← e3]
              exact right5_bad_keys o dc w hK' (by simpa using e4)
          · rw [right_head_no (headOk_no (fun h => e3 (head5.1 h).2.2.1)), e1, e2]
            exact right5_bad_k ko o _ kc _ dc w (by omega)
        · rw [right_head_no (headOk_no (fun h => e2 (head5.1 h).2.1)), e1]
          exact right5_bad_s s ko o _ kc _ dc w e2
      · rw [right_head_no (headOk_no (fun h => e1 (head5.1 h).1))]
        exact right5_bad_n n s ko o _ kc _ dc w e1
    · have HX := Lib.hid (Box.start w (.int .i64 k) (.int .i64 n) (.string s) (.slice ko keys.length kc) (.slice o kids.length dc) 27)
      have HL : Hid (∀ w : World, Calls Tryz.prog 28 #[.agg #[.int .i64 k, .int .i64 n, .string s, .slice ko keys.length kc, .slice o kids.length dc]] w fun e w' => e = .returned (.bool (RT.node k n s keys kids).right) ∧ Below w.heap.size w w') := fun w => by
        by_cases d0 : kids = []
        · subst d0
          by_cases d1 : keys = []
          · subst d1
            have : (RT.node k n s [] []).right = headOk (.node k n s [] []) := by rw [RT.right, rightAll, Bool.and_true]
            rw [this]
            exact leaf_head n s ko o kc dc w k hs k4 k5
          · rw [right_head_no (headOk_no (fun h => d1 ?_))]
            · exact leaf_keys n s ko o _ kc dc w k (by rcases keys with _ | ⟨x, l⟩; exact absurd rfl d1; simp) hkm'
            · rcases h with h | h | h | h | h | h
              · exact List.length_eq_zero_iff.1 h.2.2.2.1
              · exact List.length_eq_zero_iff.1 h.2.2.2.1
              · exact List.length_eq_zero_iff.1 h.2.2.2.1
              · exact List.length_eq_zero_iff.1 h.2.2.2.1
              · exact absurd h.1 k4
              · exact absurd h.1 k5
        · rw [right_head_no (headOk_no (fun h => d0 ?_))]
          · exact leaf_kids n s ko o _ kc _ dc w k (by rcases kids with _ | ⟨x, l⟩; exact absurd rfl d0; simp) hdm'
          · rcases h with h | h | h | h | h | h
            · exact List.length_eq_zero_iff.1 h.2.2.2.2
            · exact List.length_eq_zero_iff.1 h.2.2.2.2
            · exact List.length_eq_zero_iff.1 h.2.2.2.2
            · exact List.length_eq_zero_iff.1 h.2.2.2.2
            · exact absurd h.1 k4
            · exact absurd h.1 k5
      exact right_leaf k n s ko o _ kc _ dc _ k4 k5 w HX.out HL.out

/-- Right, not too deep, not too great. -/
noncomputable def treeOk (T : RT) : Bool := decide (T.deep ≤ 8) && decide (T.size ≤ 200) && T.right

set_option maxRecDepth 100000 in
set_option maxHeartbeats 800000 in
theorem spec_treeOk (T : RT) (w : World) (kv dv : Value) (F : List Nat) (hl : Lies w T kv dv F) (hsz : T.sz ≤ 1048576) :
    Calls Tryz.prog 7 #[.agg #[.int .i64 T.k, .int .i64 T.n, .string T.s, kv, dv]] w fun e w' => e = .returned (.bool (treeOk T)) ∧ Below w.heap.size w w' := by
  have HX := Lib.hid (Box.start w (.int .i64 T.k) (.int .i64 T.n) (.string T.s) kv dv 27)
  have h1 := Lib.hid fun (wr : World) (hb : Below w.heap.size w wr) => spec_deep T wr kv dv F (hl.stay hb (Nat.le_refl _)) hsz
  have h2 := Lib.hid fun (wr : World) (hb : Below w.heap.size w wr) => spec_size T wr kv dv F (hl.stay hb (Nat.le_refl _)) hsz
  have h3 := Lib.hid fun (wr : World) (hb : Below w.heap.size w wr) => spec_right T wr kv dv F (hl.stay hb (Nat.le_refl _))
  unfold treeOk
  clear hl hsz
  by_cases d1 : T.deep ≤ 8
  · by_cases d2 : T.size ≤ 200
    · rw [decide_eq_true d1, decide_eq_true d2, Bool.true_and, Bool.true_and]
      have d1' : ((T.deep : Nat) : Int) ≤ 8 := by omega
      have d2' : ((T.size : Nat) : Int) ≤ 200 := by omega
      generalize T.right = r at *
      go_enter Tryz.func7, Tryz.ntmps7
      go_wp2_with fail
      refine (h1.out _ HX.out.below).mono ?_
      rintro e w1 ⟨rfl, hb1⟩
      have HX1 := Lib.hid (HX.out.next hb1)
      clear hb1
      obtain ⟨-, -, x0, x1, x2, x3, x4⟩ := HX1.out
      go_wp2_with fail
      refine (h2.out _ HX1.out.below).mono ?_
      rintro e w2 ⟨rfl, hb2⟩
      have HX2 := Lib.hid (HX1.out.next hb2)
      clear hb2 x0 x1 x2 x3 x4
      obtain ⟨-, -, x0, x1, x2, x3, x4⟩ := HX2.out
      go_wp2_with fail
      refine (h3.out _ HX2.out.below).mono ?_
      rintro e w3 ⟨rfl, hb3⟩
      have HB := Lib.hid (HX2.out.next hb3).below
      clear hb3 x0 x1 x2 x3 x4
      go_wp2
      go_ret
      exact ⟨rfl, HB.out⟩
    · rw [decide_eq_true d1, decide_eq_false d2, Bool.true_and, Bool.false_and]
      have d1' : ((T.deep : Nat) : Int) ≤ 8 := by omega
      have d2' : ¬ ((T.size : Nat) : Int) ≤ 200 := by omega
      go_enter Tryz.func7, Tryz.ntmps7
      go_wp2_with fail
      refine (h1.out _ HX.out.below).mono ?_
      rintro e w1 ⟨rfl, hb1⟩
      have HX1 := Lib.hid (HX.out.next hb1)
      clear hb1
      obtain ⟨-, -, x0, x1, x2, x3, x4⟩ := HX1.out
      go_wp2_with fail
      refine (h2.out _ HX1.out.below).mono ?_
      rintro e w2 ⟨rfl, hb2⟩
      have HB := Lib.hid (HX1.out.next hb2).below
      clear hb2 x0 x1 x2 x3 x4
      go_wp2
      go_ret
      exact ⟨rfl, HB.out⟩
  · rw [decide_eq_false d1, Bool.false_and, Bool.false_and]
    have d1' : ¬ ((T.deep : Nat) : Int) ≤ 8 := by omega
    go_enter Tryz.func7, Tryz.ntmps7
    go_wp2_with fail
    refine (h1.out _ HX.out.below).mono ?_
    rintro e w1 ⟨rfl, hb1⟩
    have HB := Lib.hid (HX.out.next hb1).below
    clear hb1
    go_wp2
    go_ret
    exact ⟨rfl, HB.out⟩
end Go.Proofs.YtelpkcbbipianaaGreat
