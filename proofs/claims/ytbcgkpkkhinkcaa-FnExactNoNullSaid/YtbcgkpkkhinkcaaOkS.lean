/-
  What is proved: the model's l3Deep and l3Size tell how deep a tree is and how many nodes it has.
-/
import Derived.Test.YtbcgkpkkhinkcaaOkT
namespace Go.Proofs.Ytbcgkpkkhinkcaa
open Go Go.RowKit

def DeepAt (T : RT) : Prop := ∀ (w : World) (kv dv : Value) (F : List Nat), Lies w T kv dv F → T.sz ≤ 1048576 →
  Calls Try.prog 39 #[T.val kv dv] w fun e w' => e = .returned (.int .i64 (T.deep : Nat)) ∧ Below w.heap.size w w'
def SizeAt (T : RT) : Prop := ∀ (w : World) (kv dv : Value) (F : List Nat), Lies w T kv dv F → T.sz ≤ 1048576 →
  Calls Try.prog 40 #[T.val kv dv] w fun e w' => e = .returned (.int .i64 (T.size : Nat)) ∧ Below w.heap.size w w'

set_option maxHeartbeats 400000 in
theorem spec_max (a b : Nat) (w : World) : Calls Try.prog 47 #[.int .i64 (a : Nat), .int .i64 (b : Nat)] w fun e w' => e = .returned (.int .i64 (max a b : Nat)) ∧ w' = w := by
  by_cases h : (a : Int) > b
  · go_enter Try.func47, Try.ntmps47
    go_wp2
    go_ret
    exact ⟨ret_int (by omega), rfl⟩
  · go_enter Try.func47, Try.ntmps47
    go_wp2
    go_ret
    exact ⟨ret_int (by omega), rfl⟩

set_option maxRecDepth 100000 in
set_option maxHeartbeats 800000 in
theorem spec_deep (T : RT) : DeepAt T := by
  induction T using RT.ind with
  | h k n s keys kids ih =>
    intro w kv dv F hl hsz
    have hdp := deep_sz (.node k n s keys kids)
    obtain ⟨-, -, -, FK, FD, -, hD, -⟩ := hl.outn
    obtain ⟨o, cap, b, off, FF, KV, DV, rfl, hlc, hcm, ho, -, hcell, hlies, -⟩ := hD
    have hsk : ∀ t ∈ kids, t.sz ≤ 1048576 := fun t ht => by
      have := sz_take kids ht
      simp only [RT.sz] at hsz
      omega
    simp only [RT.deep] at hdp
    have hdb : deepAll kids ≤ 1048576 := by omega
    have HX := Lib.hid (Box.start w (.int .i64 k) (.int .i64 n) (.string s) kv (.slice o kids.length cap) 29)
    have HC := Lib.hid hcell
    have HL := Lib.hid hlies
    have HO := Lib.hid ho
    clear hcell hlies ho hl hdp hsz
    unfold maxLen at hcm
    show Calls Try.prog 39 #[.agg #[.int .i64 k, .int .i64 n, .string s, kv, .slice o kids.length cap]] w fun e w' => e = .returned (.int .i64 (deepAll kids + 1 : Nat)) ∧ Below w.heap.size w w'
    go_enter Try.func39, Try.ntmps39
    go_wp2
    go_loopw [3, 4] (fun m i wr => ∃ j : Nat, j ≤ kids.length ∧ i = .int .i64 j ∧ m = .int .i64 (deepAll (kids.take j) : Nat) ∧ Hid (Box w wr (.int .i64 k) (.int .i64 n) (.string s) kv (.slice o kids.length cap))) (fun _ i _ => kids.length - (intOf i).toNat)
    case atStart => exact ⟨0, Nat.zero_le _, rfl, by simp [deepAll], HX.out⟩
    case round =>
      obtain ⟨j, hj, rfl, rfl, hx⟩ := hrel
      obtain ⟨hb, -, x0, x1, x2, x3, x4⟩ := hx.out
      by_cases hlt : j < kids.length
      · have ho := HO.out (by omega)
        subst ho
        obtain ⟨c0, c1, c2, c3, c4⟩ := kid_cells (HC.out j hlt) hb
        have HI := Lib.hid (ih _ (List.getElem_mem hlt) wr _ _ _ ((HL.out j hlt).stay hb (Nat.le_refl _)) (hsk _ (List.getElem_mem hlt)))
        have HE := Lib.hid (deepAll_take kids j hlt)
        generalize kids[j] = x at *
        have HM := Lib.hid (spec_max (deepAll (kids.take j)) x.deep)
        clear hb
        go_wp2_with (first
          | (go_at_call 39; refine HI.out.mono ?_; rintro e w1 ⟨rfl, hb1⟩; have HB1 := Lib.hid hb1; clear hb1)
          | (go_at_call 47; refine (HM.out _).mono ?_; rintro e w2 ⟨rfl, e2⟩; subst e2)
          | go_in)
        exact ⟨⟨j + 1, by omega, by go_num, by rw [HE.out], hx.out.next HB1.out⟩, by simp [intOf]; omega⟩
      · have e : kids.take j = kids := List.take_of_length_le (by omega)
        rw [e]
        have HB := Lib.hid hb
        clear hb
        go_wp2
        go_ret
        exact ⟨ret_int (by omega), HB.out⟩

set_option maxRecDepth 100000 in
set_option maxHeartbeats 800000 in
theorem spec_size (T : RT) : SizeAt T := by
  induction T using RT.ind with
  | h k n s keys kids ih =>
    intro w kv dv F hl hsz
    have hdp := size_sz (.node k n s keys kids)
    obtain ⟨-, -, -, FK, FD, -, hD, -⟩ := hl.outn
    obtain ⟨o, cap, b, off, FF, KV, DV, rfl, hlc, hcm, ho, -, hcell, hlies, -⟩ := hD
    have hsk : ∀ t ∈ kids, t.sz ≤ 1048576 := fun t ht => by
      have := sz_take kids ht
      simp only [RT.sz] at hsz
      omega
    simp only [RT.size] at hdp
    have hdb : sizeAll kids ≤ 1048576 := by omega
    have HX := Lib.hid (Box.start w (.int .i64 k) (.int .i64 n) (.string s) kv (.slice o kids.length cap) 29)
    have HC := Lib.hid hcell
    have HL := Lib.hid hlies
    have HO := Lib.hid ho
    clear hcell hlies ho hl hdp hsz
    unfold maxLen at hcm
    show Calls Try.prog 40 #[.agg #[.int .i64 k, .int .i64 n, .string s, kv, .slice o kids.length cap]] w fun e w' => e = .returned (.int .i64 (sizeAll kids + 1 : Nat)) ∧ Below w.heap.size w w'
    go_enter Try.func40, Try.ntmps40
    go_wp2
    go_loopw [3, 4] (fun m i wr => ∃ j : Nat, j ≤ kids.length ∧ i = .int .i64 j ∧ m = .int .i64 (sizeAll (kids.take j) + 1 : Nat) ∧ Hid (Box w wr (.int .i64 k) (.int .i64 n) (.string s) kv (.slice o kids.length cap))) (fun _ i _ => kids.length - (intOf i).toNat)
    case atStart => exact ⟨0, Nat.zero_le _, rfl, by simp [sizeAll], HX.out⟩
    case round =>
      obtain ⟨j, hj, rfl, rfl, hx⟩ := hrel
      obtain ⟨hb, -, x0, x1, x2, x3, x4⟩ := hx.out
      by_cases hlt : j < kids.length
      · have ho := HO.out (by omega)
        subst ho
        obtain ⟨c0, c1, c2, c3, c4⟩ := kid_cells (HC.out j hlt) hb
        have HI := Lib.hid (ih _ (List.getElem_mem hlt) wr _ _ _ ((HL.out j hlt).stay hb (Nat.le_refl _)) (hsk _ (List.getElem_mem hlt)))
        have he := sizeAll_take kids j hlt
        have hle := sizeAll_take_le kids (j + 1)
        generalize kids[j] = x at *
        have HE := Lib.hid he
        have hbd : sizeAll (kids.take j) + x.size ≤ 1048576 := by omega
        clear hb he hle
        go_wp2_with (first
          | (go_at_call 40; refine HI.out.mono ?_; rintro e w1 ⟨rfl, hb1⟩; have HB1 := Lib.hid hb1; clear hb1)
          | go_in)
        exact ⟨⟨j + 1, by omega, by go_num, by rw [HE.out]; congr 1; omega, hx.out.next HB1.out⟩, by simp [intOf]; omega⟩
      · have e : kids.take j = kids := List.take_of_length_le (by omega)
        rw [e]
        have HB := Lib.hid hb
        clear hb
        go_wp2
        go_ret
        exact ⟨ret_int (by omega), HB.out⟩
end Go.Proofs.Ytbcgkpkkhinkcaa
