/-
  What is proved: slices.SortStableFunc of at most four metrics, or notes, sorts them by insertion.
-/
import Derived.Test.YtjopjdidbkhmnaaOrdSrt
namespace Go.Proofs.Ytjopjdidbkhmnaa
open Go Go.RowKit Go.Sort

instance metInh : Inhabited Met := ⟨⟨⟨#[]⟩, 0, 0⟩⟩
instance notInh : Inhabited Not := ⟨⟨⟨#[]⟩, ⟨#[]⟩⟩⟩


theorem lays_met {B blk : Nat} {w : World} (size : Nat) (hB : w.cell? ⟨B, 0, none⟩ = some (.func (.func 51) #[] #[])) (hne : B ≠ blk) :
    CmpLays Try.prog 64 #[.pointer (some ⟨B, 0, none⟩)] Met.row 3 (cmpN Met.name) blk 0 size w := fun m os dk _ x y => by
  have hlt : B < w.heap.size := World.block_lt_of_cell? _ _ hB
  have hc : (sortWorldK Met.row 3 w blk 0 m dk os).cell? ⟨B, 0, none⟩ = some (.func (.func 51) #[] #[]) := by
    unfold sortWorldK
    rw [cell?_grow _ _ _ (by rw [size_putRowK]; exact hlt), cell?_putRowK_other _ _ _ _ _ _ _ (by exact hne)]
    exact hB
  exact clo1_met x y B _ hc

set_option maxRecDepth 100000 in
set_option maxHeartbeats 2000000 in
theorem ins_met {B blk cap : Nat} (d : Array Met) (w : World) (hB : w.cell? ⟨B, 0, none⟩ = some (.func (.func 51) #[] #[])) (hne : B ≠ blk) (hH : HoldsK Met.row 3 w blk 0 d) (hblk : blk < w.heap.size) (h4 : d.size ≤ 4) :
    Calls Try.prog 79 #[.slice (some ⟨blk, 0, none⟩) d.size cap, .int .i64 0, .int .i64 d.size, .func (.func 64) #[] #[.pointer (some ⟨B, 0, none⟩)]] w fun e w' =>
      e = .returned (.tuple #[]) ∧ ∃ n os, w' = sortWorldK Met.row 3 w blk 0 n (Sort.insertionSort (ltOf (cmpN Met.name)) d 0 d.size) os := by
  have eg : ∀ args w, (callFunc 64 args).run Try.prog w = .ok (.enter 64 args) w := enters_of Try.func64 (by kernel_rfl) rfl
  have h := AnyQ.insertionSortCmpFunc Try.insMet 3 Try.isAgg27 Try.sizeOf27 Met.row (fun _ => rfl) (fun x v hv => by simp [Met.row] at hv; rcases hv with rfl | rfl | rfl <;> rfl) (cmpN Met.name) 64 #[.pointer (some ⟨B, 0, none⟩)] blk 0 cap 0 d.size d w eg (lays_met d.size hB hne) hH hblk (Nat.zero_le _) (Nat.le_refl _) (by omega)
  exact h

set_option maxRecDepth 100000 in
set_option maxHeartbeats 2000000 in
theorem stable_met {B blk cap : Nat} (d : Array Met) (w : World) (hB : w.cell? ⟨B, 0, none⟩ = some (.func (.func 51) #[] #[])) (hne : B ≠ blk) (hH : HoldsK Met.row 3 w blk 0 d) (hblk : blk < w.heap.size) (h4 : d.size ≤ 4) :
    Calls Try.prog 75 #[.slice (some ⟨blk, 0, none⟩) d.size cap, .int .i64 d.size, .func (.func 64) #[] #[.pointer (some ⟨B, 0, none⟩)]] w fun e w' =>
      e = .returned (.tuple #[]) ∧ ∃ n os, w' = sortWorldK Met.row 3 w blk 0 n (Sort.insertionSort (ltOf (cmpN Met.name)) d 0 d.size) os := by
  have hi := Lib.hid (ins_met (cap := cap) d w hB hne hH hblk h4)
  clear hH hB
  generalize Sort.insertionSort (ltOf (cmpN Met.name)) d 0 d.size = r at *
  have h5 : ¬ (20 : Int) ≤ d.size := by omega
  have h6 : ¬ (20 : Int) < d.size := by omega
  go_enter Try.func75, Try.ntmps75
  go_wp2
  refine wp_loop_rounds 1 ?_
  rw [rounds_succ]
  go_wp2_with (first | (go_at_call 79; refine hi.out.mono ?_; rintro e w1 ⟨rfl, n, os, rfl⟩) | fail)
  refine wp_loop_rounds 1 ?_
  rw [rounds_succ]
  go_wp2
  go_end0
  exact ⟨rfl, n, os, rfl⟩

set_option maxRecDepth 100000 in
set_option maxHeartbeats 2000000 in
theorem sort_met {B blk cap : Nat} (d : Array Met) (w : World) (hB : w.cell? ⟨B, 0, none⟩ = some (.func (.func 51) #[] #[])) (hne : B ≠ blk) (hH : HoldsK Met.row 3 w blk 0 d) (hblk : blk < w.heap.size) (h4 : d.size ≤ 4) :
    Calls Try.prog 63 #[.slice (some ⟨blk, 0, none⟩) d.size cap, .func (.func 64) #[] #[.pointer (some ⟨B, 0, none⟩)]] w fun e w' =>
      e = .returned (.tuple #[]) ∧ ∃ n os, w' = sortWorldK Met.row 3 w blk 0 n (Sort.insertionSort (ltOf (cmpN Met.name)) d 0 d.size) os := by
  have hi := Lib.hid (stable_met (cap := cap) d w hB hne hH hblk h4)
  clear hH hB
  generalize Sort.insertionSort (ltOf (cmpN Met.name)) d 0 d.size = r at *
  go_enter Try.func63, Try.ntmps63
  go_wp2_with (first | (go_at_call 75; refine hi.out.mono ?_; rintro e w1 ⟨rfl, n, os, rfl⟩) | fail)
  go_end0
  exact ⟨rfl, n, os, rfl⟩


theorem lays_not {B blk : Nat} {w : World} (size : Nat) (hB : w.cell? ⟨B, 0, none⟩ = some (.func (.func 54) #[] #[])) (hne : B ≠ blk) :
    CmpLays Try.prog 72 #[.pointer (some ⟨B, 0, none⟩)] Not.row 2 (cmpN Not.key) blk 0 size w := fun m os dk _ x y => by
  have hlt : B < w.heap.size := World.block_lt_of_cell? _ _ hB
  have hc : (sortWorldK Not.row 2 w blk 0 m dk os).cell? ⟨B, 0, none⟩ = some (.func (.func 54) #[] #[]) := by
    unfold sortWorldK
    rw [cell?_grow _ _ _ (by rw [size_putRowK]; exact hlt), cell?_putRowK_other _ _ _ _ _ _ _ (by exact hne)]
    exact hB
  exact clo1_not x y B _ hc

set_option maxRecDepth 100000 in
set_option maxHeartbeats 2000000 in
theorem ins_not {B blk cap : Nat} (d : Array Not) (w : World) (hB : w.cell? ⟨B, 0, none⟩ = some (.func (.func 54) #[] #[])) (hne : B ≠ blk) (hH : HoldsK Not.row 2 w blk 0 d) (hblk : blk < w.heap.size) (h4 : d.size ≤ 4) :
    Calls Try.prog 82 #[.slice (some ⟨blk, 0, none⟩) d.size cap, .int .i64 0, .int .i64 d.size, .func (.func 72) #[] #[.pointer (some ⟨B, 0, none⟩)]] w fun e w' =>
      e = .returned (.tuple #[]) ∧ ∃ n os, w' = sortWorldK Not.row 2 w blk 0 n (Sort.insertionSort (ltOf (cmpN Not.key)) d 0 d.size) os := by
  have eg : ∀ args w, (callFunc 72 args).run Try.prog w = .ok (.enter 72 args) w := enters_of Try.func72 (by kernel_rfl) rfl
  have h := AnyQ.insertionSortCmpFunc Try.insNot 2 Try.isAgg64 Try.sizeOf64 Not.row (fun _ => rfl) (fun x v hv => by simp [Not.row] at hv; rcases hv with rfl | rfl <;> rfl) (cmpN Not.key) 72 #[.pointer (some ⟨B, 0, none⟩)] blk 0 cap 0 d.size d w eg (lays_not d.size hB hne) hH hblk (Nat.zero_le _) (Nat.le_refl _) (by omega)
  exact h

set_option maxRecDepth 100000 in
set_option maxHeartbeats 2000000 in
theorem stable_not {B blk cap : Nat} (d : Array Not) (w : World) (hB : w.cell? ⟨B, 0, none⟩ = some (.func (.func 54) #[] #[])) (hne : B ≠ blk) (hH : HoldsK Not.row 2 w blk 0 d) (hblk : blk < w.heap.size) (h4 : d.size ≤ 4) :
    Calls Try.prog 78 #[.slice (some ⟨blk, 0, none⟩) d.size cap, .int .i64 d.size, .func (.func 72) #[] #[.pointer (some ⟨B, 0, none⟩)]] w fun e w' =>
      e = .returned (.tuple #[]) ∧ ∃ n os, w' = sortWorldK Not.row 2 w blk 0 n (Sort.insertionSort (ltOf (cmpN Not.key)) d 0 d.size) os := by
  have hi := Lib.hid (ins_not (cap := cap) d w hB hne hH hblk h4)
  clear hH hB
  generalize Sort.insertionSort (ltOf (cmpN Not.key)) d 0 d.size = r at *
  have h5 : ¬ (20 : Int) ≤ d.size := by omega
  have h6 : ¬ (20 : Int) < d.size := by omega
  go_enter Try.func78, Try.ntmps78
  go_wp2
  refine wp_loop_rounds 1 ?_
  rw [rounds_succ]
  go_wp2_with (first | (go_at_call 82; refine hi.out.mono ?_; rintro e w1 ⟨rfl, n, os, rfl⟩) | fail)
  refine wp_loop_rounds 1 ?_
  rw [rounds_succ]
  go_wp2
  go_end0
  exact ⟨rfl, n, os, rfl⟩

set_option maxRecDepth 100000 in
set_option maxHeartbeats 2000000 in
theorem sort_not {B blk cap : Nat} (d : Array Not) (w : World) (hB : w.cell? ⟨B, 0, none⟩ = some (.func (.func 54) #[] #[])) (hne : B ≠ blk) (hH : HoldsK Not.row 2 w blk 0 d) (hblk : blk < w.heap.size) (h4 : d.size ≤ 4) :
    Calls Try.prog 71 #[.slice (some ⟨blk, 0, none⟩) d.size cap, .func (.func 72) #[] #[.pointer (some ⟨B, 0, none⟩)]] w fun e w' =>
      e = .returned (.tuple #[]) ∧ ∃ n os, w' = sortWorldK Not.row 2 w blk 0 n (Sort.insertionSort (ltOf (cmpN Not.key)) d 0 d.size) os := by
  have hi := Lib.hid (stable_not (cap := cap) d w hB hne hH hblk h4)
  clear hH hB
  generalize Sort.insertionSort (ltOf (cmpN Not.key)) d 0 d.size = r at *
  go_enter Try.func71, Try.ntmps71
  go_wp2_with (first | (go_at_call 78; refine hi.out.mono ?_; rintro e w1 ⟨rfl, n, os, rfl⟩) | fail)
  go_end0
  exact ⟨rfl, n, os, rfl⟩

end Go.Proofs.Ytjopjdidbkhmnaa
