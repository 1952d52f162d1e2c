/-
  What is proved: what a line adds to the last level that is open.
-/
import Derived.Test.YtmcjghhmcmkomaaGreatDoorPartAX
namespace Go.Proofs.YtmcjghhmcmkomaaGreatDoor
open Go Go.RowKit

/-- What the map of Keys answers of this one, and that it takes it. -/
structure Takes (wr : World) (mb : Nat) (key : ByteArray) (ks2 : List ByteArray) (b : Bool) : Prop where
  look : ∃ v, ∀ wx : World, wx.heap[mb]? = wr.heap[mb]? → (Instr.lookup 138 (.map (some mb)) (.string key) true).run Tryz.prog wx = .ok (.tuple #[v, .bool b]) wx
  entry : ∀ wx : World, wx.heap[mb]? = wr.heap[mb]? → ∃ (v : Value) (st : Int) (w1 : World), (Instr.mapEntry 138 (.map (some mb)) (.string key)).run Tryz.prog wx = .ok (.tuple #[v, .int .i64 st]) w1 ∧ wx.grownBy w1 (some mb) ∧
    ∀ (w2 : World) (x : Int), w2.heap[mb]? = w1.heap[mb]? → ∃ w3, (Instr.entryStore 138 (.map (some mb)) (.int .i64 st) (.int .i64 x)).run Tryz.prog w2 = .ok () w3 ∧ w2.grownBy w3 (some mb) ∧ Seen w3 mb ks2

theorem takes_new {wr : World} {mb : Nat} {key : ByteArray} {ks : List ByteArray} (h : Seen wr mb ks) (hn : key ∉ ks) : Takes wr mb key (ks ++ [key]) false :=
  ⟨⟨_, fun _ hx => seen_lookup (h.same hx) hn⟩, fun _ hx => by obtain ⟨st, w1, h1, h2, h3⟩ := seen_entry (h.same hx) hn; exact ⟨_, st, w1, h1, h2, h3⟩⟩
theorem takes_one {wr : World} {mb : Nat} {key : ByteArray} (h : Seen wr mb [key]) : Takes wr mb key [key] true :=
  ⟨seen_lookup_one h, fun _ hx => seen_entry_one (h.same hx)⟩

/-- A line's Key fits a level. -/
theorem takes_of {w0 wr : World} {l : Ol} (hl : OlOk w0 wr l) (key : ByteArray) (hk : l.k = 4 ∧ key = ⟨#[]⟩ ∨ l.k = 5 ∧ key ∉ l.dk) (hk2 : l.k = 5 → l.key ∈ l.dk ∨ l.ks = []) :
    ∃ mb ks2 b, l.mv = .map (some mb) ∧ l.FM = [mb] ∧ Takes wr mb key ks2 b ∧ (b = true → l.k = 4) ∧ seenOk { l with key := key, ks := ks2 } := by
  obtain ⟨mb, e1, e2, e3, e4, e5, e6⟩ := hl.kind
  rcases hk with ⟨hk, rfl⟩ | ⟨hk, hn⟩
  · rcases e6.1 hk with h0 | h0
    · rw [h0] at e3
      exact ⟨mb, _, _, e1, e2, takes_new e3 (by simp), fun h => (by cases h), fun _ => .inr rfl, fun h => by have h : l.k = 5 := h; rw [hk] at h; exact absurd h (by decide)⟩
    · rw [h0] at e3
      exact ⟨mb, _, _, e1, e2, takes_one e3, fun _ => hk, fun _ => .inr rfl, fun h => by have h : l.k = 5 := h; rw [hk] at h; exact absurd h (by decide)⟩
  · have hnk : key ∉ l.ks := fun hin => by
      rcases hk2 hk with h2 | h2
      · rcases e6.2 hk key hin with h3 | h3
        · exact hn h3
        · rw [h3] at hn; exact hn h2
      · rw [h2] at hin; simp at hin
    refine ⟨mb, _, _, e1, e2, takes_new e3 hnk, fun h => (by cases h), fun h => by have h : l.k = 4 := h; rw [hk] at h; exact absurd h (by decide), fun _ x hx => ?_⟩
    have hx : x ∈ l.ks ++ [key] := hx
    rcases List.mem_append.1 hx with hx | hx
    · show x ∈ l.dk ∨ x = key
      rcases hk2 hk with h2 | h2
      · rcases e6.2 hk x hx with h3 | h3
        · exact .inl h3
        · rw [h3]; exact .inl h2
      · rw [h2] at hx; simp at hx
    · simp at hx; exact .inr hx

theorem OMid.here {w0 wa wr : World} {p : Nat} {du : Bool} {en : Nat} {ov : Value} {ls : List Ol} (h : OMid w0 wa wr p du en ov ls) : OMid w0 wr wr p du en ov ls := ⟨h.ob, h.stk, Kp.refl _ _ _, h.hs⟩

set_option maxRecDepth 100000 in
set_option maxHeartbeats 8000000 in
theorem oaddFT {w0 wr : World} {p : Nat} {du : Bool} {en : Nat} {ls : List Ol} {l : Ol} {g cap : Nat} {key value : ByteArray} {mb : Nat} {ks2 : List ByteArray} (h : OMid w0 wr wr p du en (.slice (some ⟨g, 0, none⟩) (ls.length + 1) cap) (ls ++ [l])) (hp : p < w0.heap.size) (hen : en < 200)
    (hkey : key.size ≤ maxLen) (m1 : l.mv = .map (some mb)) (m2 : l.FM = [mb]) (mt : Takes wr mb key ks2 false) (mok : seenOk { l with key := key, ks := ks2 }) :
    Calls Tryz.prog 86 #[.pointer (some ⟨p, 0, none⟩), .agg #[.int .i64 l.k, .string key, .string value, .bool true]] wr fun e w' => e = .returned (.bool true) ∧ ∃ l', OMid w0 wr w' p true (en + 1) (.slice (some ⟨g, 0, none⟩) (ls.length + 1) cap) (ls ++ [l']) ∧ l'.pl = { l.pl with key := key } := by
  obtain ⟨cur, kg, kc, kc2, k5, ktop, kpre, k6, k7, k8, k9, hl, -⟩ := h.parts
  have HBl : Hid (Below wr.heap.size wr (wr.alloc (.cells #[.int .i64 l.k, .string key, .string value, .bool true] 89))) := (Below.refl _ wr).alloc (Nat.le_refl _) _
  have Z0 := Lib.hid (heap_last wr (.cells #[.int .i64 l.k, .string key, .string value, .bool true] 89))
  have HM := Lib.hid h
  obtain ⟨x0, x1, x2, x3⟩ := (h.below HBl.out).ob.eight
  unfold maxLen at kc2
  have HT := Lib.hid mt
  have hen' : IntKind.i64.wrap ((en : Int) + 1) = (en : Int) + 1 := by rw [IntKind.wrap_i64]; omega
  clear h mt
  go_enter Tryz.func86, Tryz.ntmps86
  generalize hln : ls.length = n at *
  have g0 : (0 : Int) ≤ (n : Int) := by omega
  have g1 : (n : Int) < (n : Int) + 1 := by omega
  have g2 : ¬ (n : Int) < 0 := by omega
  have g3 : IntKind.i64.wrap (n : Int) = n := by rw [IntKind.wrap_i64]; omega
  go_wp2
  go_quiet (fail)
  have HW := Lib.hid (blw_drewN HBl.out nq)
  have Z1 : Hid (((wr.alloc (.cells #[.int .i64 l.k, .string key, .string value, .bool true] 89)).drewN nq).heap[wr.heap.size]? = some (.cells #[.int .i64 l.k, .string key, .string value, .bool true] 89 (0, 0))) := Z0.out
  generalize (wr.alloc (.cells #[.int .i64 l.k, .string key, .string value, .bool true] 89)).drewN nq = w1 at *
  clear nq HBl Z0 x0 x1 x2 x3
  have kg1 := (HW.out.block g k6).trans kg
  have c0 : w1.cell? ⟨g, n * 8, none⟩ = some (.int .i64 l.k) := by rw [cell_of kg1]; exact ktop 0 (by decide)
  obtain ⟨z0, z1, z2, z3, z4⟩ := four Z1.out
  go_wp2_with fail
  go_quiet (fail)
  replace HW := Lib.hid (blw_drewN HW.out nq)
  replace Z1 : Hid ((w1.drewN nq).heap[wr.heap.size]? = some (.cells #[.int .i64 l.k, .string key, .string value, .bool true] 89 (0, 0))) := Z1.out
  generalize w1.drewN nq = w2 at *
  clear nq c0 z0 z1 z2 z3 z4 kg1
  have kg1 := (HW.out.block g k6).trans kg
  have c7 : w2.cell? ⟨g, n * 8 + 7, none⟩ = some (.map (some mb)) := by rw [cell_of kg1, ← m1]; exact ktop 7 (by decide)
  obtain ⟨z0, z1, z2, z3, z4⟩ := four Z1.out
  have hmlt : mb < wr.heap.size := hl.lt mb (List.mem_append_right _ (List.mem_append_right _ (by rw [m2]; simp)))
  obtain ⟨vl, hvl⟩ := HT.out.look
  have hl0 : (Instr.lookup 138 (.map (some mb)) (.string key) true).run Tryz.prog w2 = .ok (.tuple #[vl, .bool false]) w2 := hvl w2 (HW.out.block mb hmlt)
  have hl1 : (Instr.lookup 138 (.map (some mb)) (.string key) true).run Tryz.prog w2.drew = .ok (.tuple #[vl, .bool false]) w2.drew := hvl w2.drew (HW.out.block mb hmlt)
  have hl2 : ∀ q, (Instr.lookup 138 (.map (some mb)) (.string key) true).run Tryz.prog (w2.drewN q) = .ok (.tuple #[vl, .bool false]) (w2.drewN q) := fun q => hvl (w2.drewN q) (HW.out.block mb hmlt)
  go_wp2_with fail
  go_quiet (fail)
  clear hl0 hl1 hl2
  replace HW := Lib.hid (blw_drewN HW.out nq)
  replace Z1 : Hid ((w2.drewN nq).heap[wr.heap.size]? = some (.cells #[.int .i64 l.k, .string key, .string value, .bool true] 89 (0, 0))) := Z1.out
  generalize w2.drewN nq = w3 at *
  clear nq c7 z0 z1 z2 z3 z4 kg1
  have kg1 := (HW.out.block g k6).trans kg
  obtain ⟨z0, z1, z2, z3, z4⟩ := four Z1.out
  have hM3 := HM.out.below HW.out
  obtain ⟨x0, x1, x2, x3⟩ := hM3.ob.eight
  have hpw : p < wr.heap.size := Nat.lt_of_lt_of_le hp HM.out.hs
  have hpg : p ≠ g := by omega
  have hmg : mb ≠ g := fun e => k9 (by rw [← e]; exact List.mem_append_right _ (List.mem_append_right _ (by rw [m2]; simp)))
  have hmp : mb ≠ p := fun e => by have := hl.old mb (List.mem_append_right _ (List.mem_append_right _ (by rw [m2]; simp))); omega
  go_wp2_with fail
  have hM4 : OMid w0 wr (w3.setCell ⟨p, 2, none⟩ (.int .i64 ((en : Int) + 1))) p du (en + 1) (.slice (some ⟨g, 0, none⟩) (n + 1) cap) (ls ++ [l]) := hM3.ent hp (en + 1)
  have kg2 : (w3.setCell ⟨p, 2, none⟩ (.int .i64 ((en : Int) + 1))).heap[g]? = some (.cells cur 140 (0, 0)) := (Below.heap_setCell _ _ _ _ (by exact fun e => hpg e.symm)).trans kg1
  have kz2 : (w3.setCell ⟨p, 2, none⟩ (.int .i64 ((en : Int) + 1))).heap[wr.heap.size]? = some (.cells #[.int .i64 l.k, .string key, .string value, .bool true] 89 (0, 0)) := (Below.heap_setCell _ _ _ _ (by show wr.heap.size ≠ p; omega)).trans Z1.out
  have km2 : (w3.setCell ⟨p, 2, none⟩ (.int .i64 ((en : Int) + 1))).heap[mb]? = wr.heap[mb]? := (Below.heap_setCell _ _ _ _ (by exact hmp)).trans (HW.out.block mb hmlt)
  generalize w3.setCell ⟨p, 2, none⟩ (.int .i64 ((en : Int) + 1)) = w4 at *
  clear x0 x1 x2 x3 z0 z1 z2 z3 z4 kg1 hM3 HW Z1
  obtain ⟨x0, x1, x2, x3⟩ := hM4.ob.eight
  obtain ⟨z0, z1, z2, z3, z4⟩ := four kz2
  replace x2 : w4.cell? ⟨p, 2, none⟩ = some (.int .i64 ((en : Int) + 1)) := x2
  have c6 : w4.cell? ⟨g, n * 8 + 6, none⟩ = some (.string l.key) := by rw [cell_of kg2]; exact ktop 6 (by decide)
  have c7 : w4.cell? ⟨g, n * 8 + 7, none⟩ = some (.map (some mb)) := by rw [cell_of kg2, ← m1]; exact ktop 7 (by decide)
  have f6 : ∀ o, w4.frozen? ⟨g, o, none⟩ = false := fun o => by simp only [World.frozen?, kg2]; simp
  have kg3 : (w4.setCell ⟨g, n * 8 + 6, none⟩ (.string key)).heap[g]? = some (.cells (cur.setIfInBounds (n * 8 + 6) (.string key)) 140 (0, 0)) := heap_set kg2 _ _
  have kz3 : (w4.setCell ⟨g, n * 8 + 6, none⟩ (.string key)).heap[wr.heap.size]? = _ := (Below.heap_setCell _ _ _ _ (by show wr.heap.size ≠ g; omega)).trans kz2
  have kp3 : (w4.setCell ⟨g, n * 8 + 6, none⟩ (.string key)).heap[p]? = _ := (Below.heap_setCell _ _ _ _ (by exact hpg)).trans hM4.ob
  have s7 : (w4.setCell ⟨g, n * 8 + 6, none⟩ (.string key)).cell? ⟨g, n * 8 + 7, none⟩ = some (.map (some mb)) := by rw [cell_of kg3, Array.getElem?_setIfInBounds_ne (by omega), ← m1]; exact ktop 7 (by decide)
  have s1 : (w4.setCell ⟨g, n * 8 + 6, none⟩ (.string key)).cell? ⟨wr.heap.size, 1, none⟩ = some (.string key) := by rw [cell_of kz3]; rfl
  have s2 : (w4.setCell ⟨g, n * 8 + 6, none⟩ (.string key)).cell? ⟨p, 2, none⟩ = some (.int .i64 ((en : Int) + 1)) := by rw [cell_of kp3]; rfl
  obtain ⟨vE, stE, w5, hE, hg5', hst⟩ := HT.out.entry (w4.setCell ⟨g, n * 8 + 6, none⟩ (.string key)).drew ((Below.heap_setCell _ _ _ _ (by exact hmg)).trans km2)
  have hg5 : (w4.setCell ⟨g, n * 8 + 6, none⟩ (.string key)).grownBy w5 (some mb) := ⟨hg5'.os, hg5'.tape, hg5'.output, hg5'.size, hg5'.block⟩
  clear hg5'
  obtain ⟨w6, hS, hg6, hsn⟩ := hst w5 ((en : Int) + 1) rfl
  have hsz5 : ∀ b, b < wr.heap.size + 1 → b ≠ mb → w5.heap[b]? = (w4.setCell ⟨g, n * 8 + 6, none⟩ (.string key)).heap[b]? := fun b h1 h2 => hg5.block b (by have := (Array.getElem?_eq_some_iff.1 kz3).1; omega) (fun e => by injection e with e; exact h2 e)
  have hsz6 : ∀ b, b < wr.heap.size + 1 → b ≠ mb → w6.heap[b]? = w5.heap[b]? := fun b h1 h2 => hg6.block b (by have := (Array.getElem?_eq_some_iff.1 kz3).1; have := hg5.size; omega) (fun e => by injection e with e; exact h2 e)
  have kg5 := (hsz5 g (by omega) (fun e => hmg e.symm)).trans kg3
  have kz5 := (hsz5 wr.heap.size (by omega) (by omega)).trans kz3
  have kp5 := (hsz5 p (by omega) (fun e => hmp e.symm)).trans kp3
  have u7 : w5.cell? ⟨g, n * 8 + 7, none⟩ = some (.map (some mb)) := by rw [cell_of kg5, Array.getElem?_setIfInBounds_ne (by omega), ← m1]; exact ktop 7 (by decide)
  have u1 : w5.cell? ⟨wr.heap.size, 1, none⟩ = some (.string key) := by rw [cell_of kz5]; rfl
  have u2 : w5.cell? ⟨p, 2, none⟩ = some (.int .i64 ((en : Int) + 1)) := by rw [cell_of kp5]; rfl
  have kg6 := (hsz6 g (by omega) (fun e => hmg e.symm)).trans kg5
  have kz6 := (hsz6 wr.heap.size (by omega) (by omega)).trans kz5
  have kp6 := (hsz6 p (by omega) (fun e => hmp e.symm)).trans kp5
  have v7 : w6.cell? ⟨g, n * 8 + 7, none⟩ = some (.map (some mb)) := by rw [cell_of kg6, Array.getElem?_setIfInBounds_ne (by omega), ← m1]; exact ktop 7 (by decide)
  have v1 : w6.cell? ⟨wr.heap.size, 1, none⟩ = some (.string key) := by rw [cell_of kz6]; rfl
  have v2 : w6.cell? ⟨p, 2, none⟩ = some (.int .i64 ((en : Int) + 1)) := by rw [cell_of kp6]; rfl
  have HM6 : Hid (OMid w0 wr w6 p du (en + 1) (.slice (some ⟨g, 0, none⟩) (n + 1) cap) (ls ++ [{ l with key := key, ks := ks2 }])) := by
    rw [← hln] at hM4 hg5 ⊢
    exact hM4.key hp kg2 m1 hkey hg5 hg6 hsn mok
  have HZ6 := Lib.hid kz6
  clear hM4 kg3 kz3 kp3 kg5 kz5 kp5 kg6 kz6 kp6 hsz5 hsz6 hg5 hg6 hst hsn
  refine wp_region_held_drew (S := (fun w' => w'.cell? ⟨g, n * 8 + 7, none⟩ = some (.map (some mb)) ∧ w'.cell? ⟨wr.heap.size, 1, none⟩ = some (.string key) ∧ w'.cell? ⟨p, 2, none⟩ = some (.int .i64 ((en : Int) + 1)))) (by kernel_rfl) ?_ (fun hHeld => ?_)
  · go_keep
  refine takeD 0 50 (.pointer (some ⟨g, n * 8, none⟩)) rfl rfl (by kernel_rfl) (by kernel_rfl) (by kernel_rfl) (fun _ _ _ h => h) (Or.inl ⟨by rfl, ?_⟩) (by assumption) ?_
  · intro w hSw
    go_simp
  simp only [Act.put, List.setIfInBounds_toArray, List.set_cons_zero, List.set_cons_succ]
  refine takeD 1 51 (.pointer (some ⟨g, n * 8, none⟩)) rfl rfl (by kernel_rfl) (by kernel_rfl) (by kernel_rfl) (fun _ _ _ h => h) (Or.inl ⟨by rfl, ?_⟩) (by assumption) ?_
  · intro w hSw
    go_simp
  simp only [Act.put, List.setIfInBounds_toArray, List.set_cons_zero, List.set_cons_succ]
  refine takeD 2 52 (.pointer (some ⟨g, n * 8, none⟩)) rfl rfl (by kernel_rfl) (by kernel_rfl) (by kernel_rfl) (fun _ _ _ h => h) (Or.inl ⟨by rfl, ?_⟩) (by assumption) ?_
  · intro w hSw
    go_simp
  simp only [Act.put, List.setIfInBounds_toArray, List.set_cons_zero, List.set_cons_succ]
  refine takeD 3 53 (.pointer (some ⟨g, n * 8 + 7, none⟩)) rfl rfl (by kernel_rfl) (by kernel_rfl) (by kernel_rfl) (fun _ _ _ h => h) (Or.inl ⟨by rfl, ?_⟩) (by assumption) ?_
  · intro w hSw
    go_simp
  simp only [Act.put, List.setIfInBounds_toArray, List.set_cons_zero, List.set_cons_succ]
  refine takeD 4 54 (.map (some mb)) rfl rfl (by kernel_rfl) (by kernel_rfl) (by kernel_rfl) (fun _ _ _ h => h) (Or.inl ⟨by rfl, ?_⟩) (by assumption) ?_
  · intro w hSw
    go_simp
  simp only [Act.put, List.setIfInBounds_toArray, List.set_cons_zero, List.set_cons_succ]
  refine takeD 5 55 (.pointer (some ⟨wr.heap.size, 1, none⟩)) rfl rfl (by kernel_rfl) (by kernel_rfl) (by kernel_rfl) (fun _ _ _ h => h) (Or.inl ⟨by rfl, ?_⟩) (by assumption) ?_
  · intro w hSw
    go_simp
  simp only [Act.put, List.setIfInBounds_toArray, List.set_cons_zero, List.set_cons_succ]
  refine takeD 6 56 (.string key) rfl rfl (by kernel_rfl) (by kernel_rfl) (by kernel_rfl) (fun _ _ _ h => h) (Or.inl ⟨by rfl, ?_⟩) (by assumption) ?_
  · intro w hSw
    go_simp
  simp only [Act.put, List.setIfInBounds_toArray, List.set_cons_zero, List.set_cons_succ]
  refine takeD 7 57 (.pointer (some ⟨wr.heap.size, 1, none⟩)) rfl rfl (by kernel_rfl) (by kernel_rfl) (by kernel_rfl) (fun _ _ _ h => h) (Or.inl ⟨by rfl, ?_⟩) (by assumption) ?_
  · intro w hSw
    go_simp
  simp only [Act.put, List.setIfInBounds_toArray, List.set_cons_zero, List.set_cons_succ]
  refine takeD 8 58 (.string key) rfl rfl (by kernel_rfl) (by kernel_rfl) (by kernel_rfl) (fun _ _ _ h => h) (Or.inl ⟨by rfl, ?_⟩) (by assumption) ?_
  · intro w hSw
    go_simp
  simp only [Act.put, List.setIfInBounds_toArray, List.set_cons_zero, List.set_cons_succ]
  refine takeD 9 59 (.pointer (some ⟨p, 0, none⟩)) rfl rfl (by kernel_rfl) (by kernel_rfl) (by kernel_rfl) (fun _ _ _ h => h) (Or.inl ⟨by rfl, ?_⟩) (by assumption) ?_
  · intro w hSw
    go_simp
  simp only [Act.put, List.setIfInBounds_toArray, List.set_cons_zero, List.set_cons_succ]
  refine takeD 10 60 (.pointer (some ⟨p, 0, none⟩)) rfl rfl (by kernel_rfl) (by kernel_rfl) (by kernel_rfl) (fun _ _ _ h => h) (Or.inl ⟨by rfl, ?_⟩) (by assumption) ?_
  · intro w hSw
    go_simp
  simp only [Act.put, List.setIfInBounds_toArray, List.set_cons_zero, List.set_cons_succ]
  refine takeD 11 61 (.pointer (some ⟨p, 2, none⟩)) rfl rfl (by kernel_rfl) (by kernel_rfl) (by kernel_rfl) (fun _ _ _ h => h) (Or.inl ⟨by rfl, ?_⟩) (by assumption) ?_
  · intro w hSw
    go_simp
  simp only [Act.put, List.setIfInBounds_toArray, List.set_cons_zero, List.set_cons_succ]
  refine takeD 12 62 (.int .i64 ((en : Int) + 1)) rfl rfl (by kernel_rfl) (by kernel_rfl) (by kernel_rfl) (fun _ _ _ h => h) (Or.inl ⟨by rfl, ?_⟩) (by assumption) ?_
  · intro w hSw
    go_simp
  simp only [Act.put, List.setIfInBounds_toArray, List.set_cons_zero, List.set_cons_succ]
  refine takeD 13 63 (.pointer (some ⟨g, n * 8, none⟩)) rfl rfl (by kernel_rfl) (by kernel_rfl) (by kernel_rfl) (fun _ _ _ h => h) (Or.inl ⟨by rfl, ?_⟩) (by assumption) ?_
  · intro w hSw
    go_simp
  simp only [Act.put, List.setIfInBounds_toArray, List.set_cons_zero, List.set_cons_succ]
  refine takeD 14 64 (.pointer (some ⟨g, n * 8 + 6, none⟩)) rfl rfl (by kernel_rfl) (by kernel_rfl) (by kernel_rfl) (fun _ _ _ h => h) (Or.inl ⟨by rfl, ?_⟩) (by assumption) ?_
  · intro w hSw
    go_simp
  simp only [Act.put, List.setIfInBounds_toArray, List.set_cons_zero, List.set_cons_succ]
  refine wpAnyH_ready (rs := [15]) (by kernel_rfl) (by simp) ?_
  refine AllReadyH.cons (o := _) rfl (fun K hK => ?_) AllReadyH.nil
  go_simp
  refine hK.out _ _ ?_ (fun hHeld => ?_)
  · exact ⟨s7, s1, s2⟩
  clear hK K
  refine wpAnyH_ready (rs := [16]) (by kernel_rfl) (by simp) ?_
  refine AllReadyH.cons (o := _) rfl (fun K hK => ?_) AllReadyH.nil
  go_simp
  refine hK.out _ _ ?_ (fun hHeld => ?_)
  · exact ⟨u7, u1, u2⟩
  clear hK K
  refine takeD 17 66 (.int .i64 stE) rfl rfl (by kernel_rfl) (by kernel_rfl) (by kernel_rfl) (fun _ _ _ h => h) (Or.inl ⟨by rfl, ?_⟩) (by assumption) ?_
  · intro w hSw
    go_simp
  simp only [Act.put, List.setIfInBounds_toArray, List.set_cons_zero, List.set_cons_succ]
  refine wpAnyH_ready (rs := [18]) (by kernel_rfl) (by simp) ?_
  refine AllReadyH.cons (o := _) rfl (fun K hK => ?_) AllReadyH.nil
  go_simp
  refine hK.out _ _ ?_ (fun hHeld => ?_)
  · exact ⟨v7, v1, v2⟩
  clear hK K
  refine wpAnyH_done (by kernel_rfl) ?_ _
  obtain ⟨z0, z1, z2, z3, z4⟩ := four HZ6.out
  obtain ⟨x0, x1, x2, x3⟩ := HM6.out.ob.eight
  go_wp2
  go_ret
  exact ⟨rfl, _, HM6.out.due hp true, rfl⟩

set_option maxRecDepth 100000 in
set_option maxHeartbeats 8000000 in
theorem oaddFF {w0 wr : World} {p : Nat} {du : Bool} {en : Nat} {ls : List Ol} {l : Ol} {g cap : Nat} {key value : ByteArray} {mb : Nat} {ks2 : List ByteArray} (h : OMid w0 wr wr p du en (.slice (some ⟨g, 0, none⟩) (ls.length + 1) cap) (ls ++ [l])) (hp : p < w0.heap.size) (hen : en < 200)
    (hkey : key.size ≤ maxLen) (m1 : l.mv = .map (some mb)) (m2 : l.FM = [mb]) (mt : Takes wr mb key ks2 false) (mok : seenOk { l with key := key, ks := ks2 }) {X : RT} (hv : ValAt value X) (hfit : PL.fits { l.pl with key := key }) :
    Calls Tryz.prog 86 #[.pointer (some ⟨p, 0, none⟩), .agg #[.int .i64 l.k, .string key, .string value, .bool false]] wr fun e w' => e = .returned (.bool true) ∧ ∃ l', OMid w0 wr w' p false (en + 1) (.slice (some ⟨g, 0, none⟩) (ls.length + 1) cap) (ls ++ [l']) ∧ l'.pl = PL.put { l.pl with key := key } X := by
  obtain ⟨cur, kg, kc, kc2, k5, ktop, kpre, k6, k7, k8, k9, hl, -⟩ := h.parts
  have HBl : Hid (Below wr.heap.size wr (wr.alloc (.cells #[.int .i64 l.k, .string key, .string value, .bool false] 89))) := (Below.refl _ wr).alloc (Nat.le_refl _) _
  have Z0 := Lib.hid (heap_last wr (.cells #[.int .i64 l.k, .string key, .string value, .bool false] 89))
  have HM := Lib.hid h
  obtain ⟨x0, x1, x2, x3⟩ := (h.below HBl.out).ob.eight
  unfold maxLen at kc2
  have HT := Lib.hid mt
  have HV := Lib.hid (And.intro hv hfit)
  clear hv hfit
  have hen' : IntKind.i64.wrap ((en : Int) + 1) = (en : Int) + 1 := by rw [IntKind.wrap_i64]; omega
  clear h mt
  go_enter Tryz.func86, Tryz.ntmps86
  generalize hln : ls.length = n at *
  have g0 : (0 : Int) ≤ (n : Int) := by omega
  have g1 : (n : Int) < (n : Int) + 1 := by omega
  have g2 : ¬ (n : Int) < 0 := by omega
  have g3 : IntKind.i64.wrap (n : Int) = n := by rw [IntKind.wrap_i64]; omega
  go_wp2
  go_quiet (fail)
  have HW := Lib.hid (blw_drewN HBl.out nq)
  have Z1 : Hid (((wr.alloc (.cells #[.int .i64 l.k, .string key, .string value, .bool false] 89)).drewN nq).heap[wr.heap.size]? = some (.cells #[.int .i64 l.k, .string key, .string value, .bool false] 89 (0, 0))) := Z0.out
  generalize (wr.alloc (.cells #[.int .i64 l.k, .string key, .string value, .bool false] 89)).drewN nq = w1 at *
  clear nq HBl Z0 x0 x1 x2 x3
  have kg1 := (HW.out.block g k6).trans kg
  have c0 : w1.cell? ⟨g, n * 8, none⟩ = some (.int .i64 l.k) := by rw [cell_of kg1]; exact ktop 0 (by decide)
  obtain ⟨z0, z1, z2, z3, z4⟩ := four Z1.out
  go_wp2_with fail
  go_quiet (fail)
  replace HW := Lib.hid (blw_drewN HW.out nq)
  replace Z1 : Hid ((w1.drewN nq).heap[wr.heap.size]? = some (.cells #[.int .i64 l.k, .string key, .string value, .bool false] 89 (0, 0))) := Z1.out
  generalize w1.drewN nq = w2 at *
  clear nq c0 z0 z1 z2 z3 z4 kg1
  have kg1 := (HW.out.block g k6).trans kg
  have c7 : w2.cell? ⟨g, n * 8 + 7, none⟩ = some (.map (some mb)) := by rw [cell_of kg1, ← m1]; exact ktop 7 (by decide)
  obtain ⟨z0, z1, z2, z3, z4⟩ := four Z1.out
  have hmlt : mb < wr.heap.size := hl.lt mb (List.mem_append_right _ (List.mem_append_right _ (by rw [m2]; simp)))
  obtain ⟨vl, hvl⟩ := HT.out.look
  have hl0 : (Instr.lookup 138 (.map (some mb)) (.string key) true).run Tryz.prog w2 = .ok (.tuple #[vl, .bool false]) w2 := hvl w2 (HW.out.block mb hmlt)
  have hl1 : (Instr.lookup 138 (.map (some mb)) (.string key) true).run Tryz.prog w2.drew = .ok (.tuple #[vl, .bool false]) w2.drew := hvl w2.drew (HW.out.block mb hmlt)
  have hl2 : ∀ q, (Instr.lookup 138 (.map (some mb)) (.string key) true).run Tryz.prog (w2.drewN q) = .ok (.tuple #[vl, .bool false]) (w2.drewN q) := fun q => hvl (w2.drewN q) (HW.out.block mb hmlt)
  go_wp2_with fail
  go_quiet (fail)
  clear hl0 hl1 hl2
  replace HW := Lib.hid (blw_drewN HW.out nq)
  replace Z1 : Hid ((w2.drewN nq).heap[wr.heap.size]? = some (.cells #[.int .i64 l.k, .string key, .string value, .bool false] 89 (0, 0))) := Z1.out
  generalize w2.drewN nq = w3 at *
  clear nq c7 z0 z1 z2 z3 z4 kg1
  have kg1 := (HW.out.block g k6).trans kg
  obtain ⟨z0, z1, z2, z3, z4⟩ := four Z1.out
  have hM3 := HM.out.below HW.out
  obtain ⟨x0, x1, x2, x3⟩ := hM3.ob.eight
  have hpw : p < wr.heap.size := Nat.lt_of_lt_of_le hp HM.out.hs
  have hpg : p ≠ g := by omega
  have hmg : mb ≠ g := fun e => k9 (by rw [← e]; exact List.mem_append_right _ (List.mem_append_right _ (by rw [m2]; simp)))
  have hmp : mb ≠ p := fun e => by have := hl.old mb (List.mem_append_right _ (List.mem_append_right _ (by rw [m2]; simp))); omega
  go_wp2_with fail
  have hM4 : OMid w0 wr (w3.setCell ⟨p, 2, none⟩ (.int .i64 ((en : Int) + 1))) p du (en + 1) (.slice (some ⟨g, 0, none⟩) (n + 1) cap) (ls ++ [l]) := hM3.ent hp (en + 1)
  have kg2 : (w3.setCell ⟨p, 2, none⟩ (.int .i64 ((en : Int) + 1))).heap[g]? = some (.cells cur 140 (0, 0)) := (Below.heap_setCell _ _ _ _ (by exact fun e => hpg e.symm)).trans kg1
  have kz2 : (w3.setCell ⟨p, 2, none⟩ (.int .i64 ((en : Int) + 1))).heap[wr.heap.size]? = some (.cells #[.int .i64 l.k, .string key, .string value, .bool false] 89 (0, 0)) := (Below.heap_setCell _ _ _ _ (by show wr.heap.size ≠ p; omega)).trans Z1.out
  have km2 : (w3.setCell ⟨p, 2, none⟩ (.int .i64 ((en : Int) + 1))).heap[mb]? = wr.heap[mb]? := (Below.heap_setCell _ _ _ _ (by exact hmp)).trans (HW.out.block mb hmlt)
  generalize w3.setCell ⟨p, 2, none⟩ (.int .i64 ((en : Int) + 1)) = w4 at *
  clear x0 x1 x2 x3 z0 z1 z2 z3 z4 kg1 hM3 HW Z1
  obtain ⟨x0, x1, x2, x3⟩ := hM4.ob.eight
  obtain ⟨z0, z1, z2, z3, z4⟩ := four kz2
  replace x2 : w4.cell? ⟨p, 2, none⟩ = some (.int .i64 ((en : Int) + 1)) := x2
  have c6 : w4.cell? ⟨g, n * 8 + 6, none⟩ = some (.string l.key) := by rw [cell_of kg2]; exact ktop 6 (by decide)
  have c7 : w4.cell? ⟨g, n * 8 + 7, none⟩ = some (.map (some mb)) := by rw [cell_of kg2, ← m1]; exact ktop 7 (by decide)
  have f6 : ∀ o, w4.frozen? ⟨g, o, none⟩ = false := fun o => by simp only [World.frozen?, kg2]; simp
  have kg3 : (w4.setCell ⟨g, n * 8 + 6, none⟩ (.string key)).heap[g]? = some (.cells (cur.setIfInBounds (n * 8 + 6) (.string key)) 140 (0, 0)) := heap_set kg2 _ _
  have kz3 : (w4.setCell ⟨g, n * 8 + 6, none⟩ (.string key)).heap[wr.heap.size]? = _ := (Below.heap_setCell _ _ _ _ (by show wr.heap.size ≠ g; omega)).trans kz2
  have kp3 : (w4.setCell ⟨g, n * 8 + 6, none⟩ (.string key)).heap[p]? = _ := (Below.heap_setCell _ _ _ _ (by exact hpg)).trans hM4.ob
  have s7 : (w4.setCell ⟨g, n * 8 + 6, none⟩ (.string key)).cell? ⟨g, n * 8 + 7, none⟩ = some (.map (some mb)) := by rw [cell_of kg3, Array.getElem?_setIfInBounds_ne (by omega), ← m1]; exact ktop 7 (by decide)
  have s1 : (w4.setCell ⟨g, n * 8 + 6, none⟩ (.string key)).cell? ⟨wr.heap.size, 1, none⟩ = some (.string key) := by rw [cell_of kz3]; rfl
  have s2 : (w4.setCell ⟨g, n * 8 + 6, none⟩ (.string key)).cell? ⟨p, 2, none⟩ = some (.int .i64 ((en : Int) + 1)) := by rw [cell_of kp3]; rfl
  obtain ⟨vE, stE, w5, hE, hg5', hst⟩ := HT.out.entry (w4.setCell ⟨g, n * 8 + 6, none⟩ (.string key)).drew ((Below.heap_setCell _ _ _ _ (by exact hmg)).trans km2)
  have hg5 : (w4.setCell ⟨g, n * 8 + 6, none⟩ (.string key)).grownBy w5 (some mb) := ⟨hg5'.os, hg5'.tape, hg5'.output, hg5'.size, hg5'.block⟩
  clear hg5'
  obtain ⟨w6, hS, hg6, hsn⟩ := hst w5 ((en : Int) + 1) rfl
  have hsz5 : ∀ b, b < wr.heap.size + 1 → b ≠ mb → w5.heap[b]? = (w4.setCell ⟨g, n * 8 + 6, none⟩ (.string key)).heap[b]? := fun b h1 h2 => hg5.block b (by have := (Array.getElem?_eq_some_iff.1 kz3).1; omega) (fun e => by injection e with e; exact h2 e)
  have hsz6 : ∀ b, b < wr.heap.size + 1 → b ≠ mb → w6.heap[b]? = w5.heap[b]? := fun b h1 h2 => hg6.block b (by have := (Array.getElem?_eq_some_iff.1 kz3).1; have := hg5.size; omega) (fun e => by injection e with e; exact h2 e)
  have kg5 := (hsz5 g (by omega) (fun e => hmg e.symm)).trans kg3
  have kz5 := (hsz5 wr.heap.size (by omega) (by omega)).trans kz3
  have kp5 := (hsz5 p (by omega) (fun e => hmp e.symm)).trans kp3
  have u7 : w5.cell? ⟨g, n * 8 + 7, none⟩ = some (.map (some mb)) := by rw [cell_of kg5, Array.getElem?_setIfInBounds_ne (by omega), ← m1]; exact ktop 7 (by decide)
  have u1 : w5.cell? ⟨wr.heap.size, 1, none⟩ = some (.string key) := by rw [cell_of kz5]; rfl
  have u2 : w5.cell? ⟨p, 2, none⟩ = some (.int .i64 ((en : Int) + 1)) := by rw [cell_of kp5]; rfl
  have kg6 := (hsz6 g (by omega) (fun e => hmg e.symm)).trans kg5
  have kz6 := (hsz6 wr.heap.size (by omega) (by omega)).trans kz5
  have kp6 := (hsz6 p (by omega) (fun e => hmp e.symm)).trans kp5
  have v7 : w6.cell? ⟨g, n * 8 + 7, none⟩ = some (.map (some mb)) := by rw [cell_of kg6, Array.getElem?_setIfInBounds_ne (by omega), ← m1]; exact ktop 7 (by decide)
  have v1 : w6.cell? ⟨wr.heap.size, 1, none⟩ = some (.string key) := by rw [cell_of kz6]; rfl
  have v2 : w6.cell? ⟨p, 2, none⟩ = some (.int .i64 ((en : Int) + 1)) := by rw [cell_of kp6]; rfl
  have HM6 : Hid (OMid w0 wr w6 p du (en + 1) (.slice (some ⟨g, 0, none⟩) (n + 1) cap) (ls ++ [{ l with key := key, ks := ks2 }])) := by
    rw [← hln] at hM4 hg5 ⊢
    exact hM4.key hp kg2 m1 hkey hg5 hg6 hsn mok
  have HZ6 := Lib.hid kz6
  clear hM4 kg3 kz3 kp3 kg5 kz5 kp5 kg6 kz6 kp6 hsz5 hsz6 hg5 hg6 hst hsn
  refine wp_region_held_drew (S := (fun w' => w'.cell? ⟨g, n * 8 + 7, none⟩ = some (.map (some mb)) ∧ w'.cell? ⟨wr.heap.size, 1, none⟩ = some (.string key) ∧ w'.cell? ⟨p, 2, none⟩ = some (.int .i64 ((en : Int) + 1)))) (by kernel_rfl) ?_ (fun hHeld => ?_)
  · go_keep
  refine takeD 0 50 (.pointer (some ⟨g, n * 8, none⟩)) rfl rfl (by kernel_rfl) (by kernel_rfl) (by kernel_rfl) (fun _ _ _ h => h) (Or.inl ⟨by rfl, ?_⟩) (by assumption) ?_
  · intro w hSw
    go_simp
  simp only [Act.put, List.setIfInBounds_toArray, List.set_cons_zero, List.set_cons_succ]
  refine takeD 1 51 (.pointer (some ⟨g, n * 8, none⟩)) rfl rfl (by kernel_rfl) (by kernel_rfl) (by kernel_rfl) (fun _ _ _ h => h) (Or.inl ⟨by rfl, ?_⟩) (by assumption) ?_
  · intro w hSw
    go_simp
  simp only [Act.put, List.setIfInBounds_toArray, List.set_cons_zero, List.set_cons_succ]
  refine takeD 2 52 (.pointer (some ⟨g, n * 8, none⟩)) rfl rfl (by kernel_rfl) (by kernel_rfl) (by kernel_rfl) (fun _ _ _ h => h) (Or.inl ⟨by rfl, ?_⟩) (by assumption) ?_
  · intro w hSw
    go_simp
  simp only [Act.put, List.setIfInBounds_toArray, List.set_cons_zero, List.set_cons_succ]
  refine takeD 3 53 (.pointer (some ⟨g, n * 8 + 7, none⟩)) rfl rfl (by kernel_rfl) (by kernel_rfl) (by kernel_rfl) (fun _ _ _ h => h) (Or.inl ⟨by rfl, ?_⟩) (by assumption) ?_
  · intro w hSw
    go_simp
  simp only [Act.put, List.setIfInBounds_toArray, List.set_cons_zero, List.set_cons_succ]
  refine takeD 4 54 (.map (some mb)) rfl rfl (by kernel_rfl) (by kernel_rfl) (by kernel_rfl) (fun _ _ _ h => h) (Or.inl ⟨by rfl, ?_⟩) (by assumption) ?_
  · intro w hSw
    go_simp
  simp only [Act.put, List.setIfInBounds_toArray, List.set_cons_zero, List.set_cons_succ]
  refine takeD 5 55 (.pointer (some ⟨wr.heap.size, 1, none⟩)) rfl rfl (by kernel_rfl) (by kernel_rfl) (by kernel_rfl) (fun _ _ _ h => h) (Or.inl ⟨by rfl, ?_⟩) (by assumption) ?_
  · intro w hSw
    go_simp
  simp only [Act.put, List.setIfInBounds_toArray, List.set_cons_zero, List.set_cons_succ]
  refine takeD 6 56 (.string key) rfl rfl (by kernel_rfl) (by kernel_rfl) (by kernel_rfl) (fun _ _ _ h => h) (Or.inl ⟨by rfl, ?_⟩) (by assumption) ?_
  · intro w hSw
    go_simp
  simp only [Act.put, List.setIfInBounds_toArray, List.set_cons_zero, List.set_cons_succ]
  refine takeD 7 57 (.pointer (some ⟨wr.heap.size, 1, none⟩)) rfl rfl (by kernel_rfl) (by kernel_rfl) (by kernel_rfl) (fun _ _ _ h => h) (Or.inl ⟨by rfl, ?_⟩) (by assumption) ?_
  · intro w hSw
    go_simp
  simp only [Act.put, List.setIfInBounds_toArray, List.set_cons_zero, List.set_cons_succ]
  refine takeD 8 58 (.string key) rfl rfl (by kernel_rfl) (by kernel_rfl) (by kernel_rfl) (fun _ _ _ h => h) (Or.inl ⟨by rfl, ?_⟩) (by assumption) ?_
  · intro w hSw
    go_simp
  simp only [Act.put, List.setIfInBounds_toArray, List.set_cons_zero, List.set_cons_succ]
  refine takeD 9 59 (.pointer (some ⟨p, 0, none⟩)) rfl rfl (by kernel_rfl) (by kernel_rfl) (by kernel_rfl) (fun _ _ _ h => h) (Or.inl ⟨by rfl, ?_⟩) (by assumption) ?_
  · intro w hSw
    go_simp
  simp only [Act.put, List.setIfInBounds_toArray, List.set_cons_zero, List.set_cons_succ]
  refine takeD 10 60 (.pointer (some ⟨p, 0, none⟩)) rfl rfl (by kernel_rfl) (by kernel_rfl) (by kernel_rfl) (fun _ _ _ h => h) (Or.inl ⟨by rfl, ?_⟩) (by assumption) ?_
  · intro w hSw
    go_simp
  simp only [Act.put, List.setIfInBounds_toArray, List.set_cons_zero, List.set_cons_succ]
  refine takeD 11 61 (.pointer (some ⟨p, 2, none⟩)) rfl rfl (by kernel_rfl) (by kernel_rfl) (by kernel_rfl) (fun _ _ _ h => h) (Or.inl ⟨by rfl, ?_⟩) (by assumption) ?_
  · intro w hSw
    go_simp
  simp only [Act.put, List.setIfInBounds_toArray, List.set_cons_zero, List.set_cons_succ]
  refine takeD 12 62 (.int .i64 ((en : Int) + 1)) rfl rfl (by kernel_rfl) (by kernel_rfl) (by kernel_rfl) (fun _ _ _ h => h) (Or.inl ⟨by rfl, ?_⟩) (by assumption) ?_
  · intro w hSw
    go_simp
  simp only [Act.put, List.setIfInBounds_toArray, List.set_cons_zero, List.set_cons_succ]
  refine takeD 13 63 (.pointer (some ⟨g, n * 8, none⟩)) rfl rfl (by kernel_rfl) (by kernel_rfl) (by kernel_rfl) (fun _ _ _ h => h) (Or.inl ⟨by rfl, ?_⟩) (by assumption) ?_
  · intro w hSw
    go_simp
  simp only [Act.put, List.setIfInBounds_toArray, List.set_cons_zero, List.set_cons_succ]
  refine takeD 14 64 (.pointer (some ⟨g, n * 8 + 6, none⟩)) rfl rfl (by kernel_rfl) (by kernel_rfl) (by kernel_rfl) (fun _ _ _ h => h) (Or.inl ⟨by rfl, ?_⟩) (by assumption) ?_
  · intro w hSw
    go_simp
  simp only [Act.put, List.setIfInBounds_toArray, List.set_cons_zero, List.set_cons_succ]
  refine wpAnyH_ready (rs := [15]) (by kernel_rfl) (by simp) ?_
  refine AllReadyH.cons (o := _) rfl (fun K hK => ?_) AllReadyH.nil
  go_simp
  refine hK.out _ _ ?_ (fun hHeld => ?_)
  · exact ⟨s7, s1, s2⟩
  clear hK K
  refine wpAnyH_ready (rs := [16]) (by kernel_rfl) (by simp) ?_
  refine AllReadyH.cons (o := _) rfl (fun K hK => ?_) AllReadyH.nil
  go_simp
  refine hK.out _ _ ?_ (fun hHeld => ?_)
  · exact ⟨u7, u1, u2⟩
  clear hK K
  refine takeD 17 66 (.int .i64 stE) rfl rfl (by kernel_rfl) (by kernel_rfl) (by kernel_rfl) (fun _ _ _ h => h) (Or.inl ⟨by rfl, ?_⟩) (by assumption) ?_
  · intro w hSw
    go_simp
  simp only [Act.put, List.setIfInBounds_toArray, List.set_cons_zero, List.set_cons_succ]
  refine wpAnyH_ready (rs := [18]) (by kernel_rfl) (by simp) ?_
  refine AllReadyH.cons (o := _) rfl (fun K hK => ?_) AllReadyH.nil
  go_simp
  refine hK.out _ _ ?_ (fun hHeld => ?_)
  · exact ⟨v7, v1, v2⟩
  clear hK K
  refine wpAnyH_done (by kernel_rfl) ?_ _
  obtain ⟨z0, z1, z2, z3, z4⟩ := four HZ6.out
  obtain ⟨x0, x1, x2, x3⟩ := HM6.out.ob.eight
  go_wp2_with fail
  have h6 := HM6.out.due hp false
  have h6n := h6.here
  rw [← hln] at h6n
  refine (ogive h6n hp HV.out.2 (by omega) HV.out.1).mono ?_
  rintro e w7 ⟨rfl, l', hM, hl'⟩
  rw [hln] at hM
  have HM7 := Lib.hid (And.intro (hM.later h6.kp) hl')
  clear hM hl' h6 h6n x0 x1 x2 x3 z0 z1 z2 z3 z4
  go_wp2
  go_ret
  exact ⟨rfl, l', HM7.out.1, HM7.out.2⟩

set_option maxRecDepth 100000 in
set_option maxHeartbeats 8000000 in
theorem oaddTT {w0 wr : World} {p : Nat} {du : Bool} {en : Nat} {ls : List Ol} {l : Ol} {g cap : Nat} {key value : ByteArray} {mb : Nat} {ks2 : List ByteArray} (h : OMid w0 wr wr p du en (.slice (some ⟨g, 0, none⟩) (ls.length + 1) cap) (ls ++ [l])) (hp : p < w0.heap.size) (hen : en < 200)
    (hkey : key.size ≤ maxLen) (m1 : l.mv = .map (some mb)) (m2 : l.FM = [mb]) (mt : Takes wr mb key ks2 true) (hk4 : l.k = 4) (mok : seenOk { l with key := key, ks := ks2 }) :
    Calls Tryz.prog 86 #[.pointer (some ⟨p, 0, none⟩), .agg #[.int .i64 l.k, .string key, .string value, .bool true]] wr fun e w' => e = .returned (.bool true) ∧ ∃ l', OMid w0 wr w' p true (en + 1) (.slice (some ⟨g, 0, none⟩) (ls.length + 1) cap) (ls ++ [l']) ∧ l'.pl = { l.pl with key := key } := by
  obtain ⟨cur, kg, kc, kc2, k5, ktop, kpre, k6, k7, k8, k9, hl, -⟩ := h.parts
  have HBl : Hid (Below wr.heap.size wr (wr.alloc (.cells #[.int .i64 l.k, .string key, .string value, .bool true] 89))) := (Below.refl _ wr).alloc (Nat.le_refl _) _
  have Z0 := Lib.hid (heap_last wr (.cells #[.int .i64 l.k, .string key, .string value, .bool true] 89))
  have HM := Lib.hid h
  obtain ⟨x0, x1, x2, x3⟩ := (h.below HBl.out).ob.eight
  unfold maxLen at kc2
  have HT := Lib.hid mt
  have HK4 := Lib.hid hk4
  clear hk4
  have hen' : IntKind.i64.wrap ((en : Int) + 1) = (en : Int) + 1 := by rw [IntKind.wrap_i64]; omega
  clear h mt
  go_enter Tryz.func86, Tryz.ntmps86
  generalize hln : ls.length = n at *
  have g0 : (0 : Int) ≤ (n : Int) := by omega
  have g1 : (n : Int) < (n : Int) + 1 := by omega
  have g2 : ¬ (n : Int) < 0 := by omega
  have g3 : IntKind.i64.wrap (n : Int) = n := by rw [IntKind.wrap_i64]; omega
  go_wp2
  go_quiet (fail)
  have HW := Lib.hid (blw_drewN HBl.out nq)
  have Z1 : Hid (((wr.alloc (.cells #[.int .i64 l.k, .string key, .string value, .bool true] 89)).drewN nq).heap[wr.heap.size]? = some (.cells #[.int .i64 l.k, .string key, .string value, .bool true] 89 (0, 0))) := Z0.out
  generalize (wr.alloc (.cells #[.int .i64 l.k, .string key, .string value, .bool true] 89)).drewN nq = w1 at *
  clear nq HBl Z0 x0 x1 x2 x3
  have kg1 := (HW.out.block g k6).trans kg
  have c0 : w1.cell? ⟨g, n * 8, none⟩ = some (.int .i64 l.k) := by rw [cell_of kg1]; exact ktop 0 (by decide)
  obtain ⟨z0, z1, z2, z3, z4⟩ := four Z1.out
  go_wp2_with fail
  go_quiet (fail)
  replace HW := Lib.hid (blw_drewN HW.out nq)
  replace Z1 : Hid ((w1.drewN nq).heap[wr.heap.size]? = some (.cells #[.int .i64 l.k, .string key, .string value, .bool true] 89 (0, 0))) := Z1.out
  generalize w1.drewN nq = w2 at *
  clear nq c0 z0 z1 z2 z3 z4 kg1
  have kg1 := (HW.out.block g k6).trans kg
  have c7 : w2.cell? ⟨g, n * 8 + 7, none⟩ = some (.map (some mb)) := by rw [cell_of kg1, ← m1]; exact ktop 7 (by decide)
  obtain ⟨z0, z1, z2, z3, z4⟩ := four Z1.out
  have hmlt : mb < wr.heap.size := hl.lt mb (List.mem_append_right _ (List.mem_append_right _ (by rw [m2]; simp)))
  obtain ⟨vl, hvl⟩ := HT.out.look
  have hl0 : (Instr.lookup 138 (.map (some mb)) (.string key) true).run Tryz.prog w2 = .ok (.tuple #[vl, .bool true]) w2 := hvl w2 (HW.out.block mb hmlt)
  have hl1 : (Instr.lookup 138 (.map (some mb)) (.string key) true).run Tryz.prog w2.drew = .ok (.tuple #[vl, .bool true]) w2.drew := hvl w2.drew (HW.out.block mb hmlt)
  have hl2 : ∀ q, (Instr.lookup 138 (.map (some mb)) (.string key) true).run Tryz.prog (w2.drewN q) = .ok (.tuple #[vl, .bool true]) (w2.drewN q) := fun q => hvl (w2.drewN q) (HW.out.block mb hmlt)
  go_wp2_with fail
  go_quiet (fail)
  clear hl0 hl1 hl2
  have hk5 : (l.k == 5) = false := by rw [HK4.out]; decide
  replace HW := Lib.hid (blw_drewN HW.out nq)
  replace Z1 : Hid ((w2.drewN nq).heap[wr.heap.size]? = some (.cells #[.int .i64 l.k, .string key, .string value, .bool true] 89 (0, 0))) := Z1.out
  generalize w2.drewN nq = w3 at *
  clear nq c7 z0 z1 z2 z3 z4 kg1
  have kg1 := (HW.out.block g k6).trans kg
  obtain ⟨z0, z1, z2, z3, z4⟩ := four Z1.out
  have hM3 := HM.out.below HW.out
  obtain ⟨x0, x1, x2, x3⟩ := hM3.ob.eight
  have hpw : p < wr.heap.size := Nat.lt_of_lt_of_le hp HM.out.hs
  have hpg : p ≠ g := by omega
  have hmg : mb ≠ g := fun e => k9 (by rw [← e]; exact List.mem_append_right _ (List.mem_append_right _ (by rw [m2]; simp)))
  have hmp : mb ≠ p := fun e => by have := hl.old mb (List.mem_append_right _ (List.mem_append_right _ (by rw [m2]; simp))); omega
  go_wp2_with fail
  have hM4 : OMid w0 wr (w3.setCell ⟨p, 2, none⟩ (.int .i64 ((en : Int) + 1))) p du (en + 1) (.slice (some ⟨g, 0, none⟩) (n + 1) cap) (ls ++ [l]) := hM3.ent hp (en + 1)
  have kg2 : (w3.setCell ⟨p, 2, none⟩ (.int .i64 ((en : Int) + 1))).heap[g]? = some (.cells cur 140 (0, 0)) := (Below.heap_setCell _ _ _ _ (by exact fun e => hpg e.symm)).trans kg1
  have kz2 : (w3.setCell ⟨p, 2, none⟩ (.int .i64 ((en : Int) + 1))).heap[wr.heap.size]? = some (.cells #[.int .i64 l.k, .string key, .string value, .bool true] 89 (0, 0)) := (Below.heap_setCell _ _ _ _ (by show wr.heap.size ≠ p; omega)).trans Z1.out
  have km2 : (w3.setCell ⟨p, 2, none⟩ (.int .i64 ((en : Int) + 1))).heap[mb]? = wr.heap[mb]? := (Below.heap_setCell _ _ _ _ (by exact hmp)).trans (HW.out.block mb hmlt)
  generalize w3.setCell ⟨p, 2, none⟩ (.int .i64 ((en : Int) + 1)) = w4 at *
  clear x0 x1 x2 x3 z0 z1 z2 z3 z4 kg1 hM3 HW Z1
  obtain ⟨x0, x1, x2, x3⟩ := hM4.ob.eight
  obtain ⟨z0, z1, z2, z3, z4⟩ := four kz2
  replace x2 : w4.cell? ⟨p, 2, none⟩ = some (.int .i64 ((en : Int) + 1)) := x2
  have c6 : w4.cell? ⟨g, n * 8 + 6, none⟩ = some (.string l.key) := by rw [cell_of kg2]; exact ktop 6 (by decide)
  have c7 : w4.cell? ⟨g, n * 8 + 7, none⟩ = some (.map (some mb)) := by rw [cell_of kg2, ← m1]; exact ktop 7 (by decide)
  have f6 : ∀ o, w4.frozen? ⟨g, o, none⟩ = false := fun o => by simp only [World.frozen?, kg2]; simp
  have kg3 : (w4.setCell ⟨g, n * 8 + 6, none⟩ (.string key)).heap[g]? = some (.cells (cur.setIfInBounds (n * 8 + 6) (.string key)) 140 (0, 0)) := heap_set kg2 _ _
  have kz3 : (w4.setCell ⟨g, n * 8 + 6, none⟩ (.string key)).heap[wr.heap.size]? = _ := (Below.heap_setCell _ _ _ _ (by show wr.heap.size ≠ g; omega)).trans kz2
  have kp3 : (w4.setCell ⟨g, n * 8 + 6, none⟩ (.string key)).heap[p]? = _ := (Below.heap_setCell _ _ _ _ (by exact hpg)).trans hM4.ob
  have s7 : (w4.setCell ⟨g, n * 8 + 6, none⟩ (.string key)).cell? ⟨g, n * 8 + 7, none⟩ = some (.map (some mb)) := by rw [cell_of kg3, Array.getElem?_setIfInBounds_ne (by omega), ← m1]; exact ktop 7 (by decide)
  have s1 : (w4.setCell ⟨g, n * 8 + 6, none⟩ (.string key)).cell? ⟨wr.heap.size, 1, none⟩ = some (.string key) := by rw [cell_of kz3]; rfl
  have s2 : (w4.setCell ⟨g, n * 8 + 6, none⟩ (.string key)).cell? ⟨p, 2, none⟩ = some (.int .i64 ((en : Int) + 1)) := by rw [cell_of kp3]; rfl
  obtain ⟨vE, stE, w5, hE, hg5', hst⟩ := HT.out.entry (w4.setCell ⟨g, n * 8 + 6, none⟩ (.string key)).drew ((Below.heap_setCell _ _ _ _ (by exact hmg)).trans km2)
  have hg5 : (w4.setCell ⟨g, n * 8 + 6, none⟩ (.string key)).grownBy w5 (some mb) := ⟨hg5'.os, hg5'.tape, hg5'.output, hg5'.size, hg5'.block⟩
  clear hg5'
  obtain ⟨w6, hS, hg6, hsn⟩ := hst w5 ((en : Int) + 1) rfl
  have hsz5 : ∀ b, b < wr.heap.size + 1 → b ≠ mb → w5.heap[b]? = (w4.setCell ⟨g, n * 8 + 6, none⟩ (.string key)).heap[b]? := fun b h1 h2 => hg5.block b (by have := (Array.getElem?_eq_some_iff.1 kz3).1; omega) (fun e => by injection e with e; exact h2 e)
  have hsz6 : ∀ b, b < wr.heap.size + 1 → b ≠ mb → w6.heap[b]? = w5.heap[b]? := fun b h1 h2 => hg6.block b (by have := (Array.getElem?_eq_some_iff.1 kz3).1; have := hg5.size; omega) (fun e => by injection e with e; exact h2 e)
  have kg5 := (hsz5 g (by omega) (fun e => hmg e.symm)).trans kg3
  have kz5 := (hsz5 wr.heap.size (by omega) (by omega)).trans kz3
  have kp5 := (hsz5 p (by omega) (fun e => hmp e.symm)).trans kp3
  have u7 : w5.cell? ⟨g, n * 8 + 7, none⟩ = some (.map (some mb)) := by rw [cell_of kg5, Array.getElem?_setIfInBounds_ne (by omega), ← m1]; exact ktop 7 (by decide)
  have u1 : w5.cell? ⟨wr.heap.size, 1, none⟩ = some (.string key) := by rw [cell_of kz5]; rfl
  have u2 : w5.cell? ⟨p, 2, none⟩ = some (.int .i64 ((en : Int) + 1)) := by rw [cell_of kp5]; rfl
  have kg6 := (hsz6 g (by omega) (fun e => hmg e.symm)).trans kg5
  have kz6 := (hsz6 wr.heap.size (by omega) (by omega)).trans kz5
  have kp6 := (hsz6 p (by omega) (fun e => hmp e.symm)).trans kp5
  have v7 : w6.cell? ⟨g, n * 8 + 7, none⟩ = some (.map (some mb)) := by rw [cell_of kg6, Array.getElem?_setIfInBounds_ne (by omega), ← m1]; exact ktop 7 (by decide)
  have v1 : w6.cell? ⟨wr.heap.size, 1, none⟩ = some (.string key) := by rw [cell_of kz6]; rfl
  have v2 : w6.cell? ⟨p, 2, none⟩ = some (.int .i64 ((en : Int) + 1)) := by rw [cell_of kp6]; rfl
  have HM6 : Hid (OMid w0 wr w6 p du (en + 1) (.slice (some ⟨g, 0, none⟩) (n + 1) cap) (ls ++ [{ l with key := key, ks := ks2 }])) := by
    rw [← hln] at hM4 hg5 ⊢
    exact hM4.key hp kg2 m1 hkey hg5 hg6 hsn mok
  have HZ6 := Lib.hid kz6
  clear hM4 kg3 kz3 kp3 kg5 kz5 kp5 kg6 kz6 kp6 hsz5 hsz6 hg5 hg6 hst hsn
  refine wp_region_held_drew (S := (fun w' => w'.cell? ⟨g, n * 8 + 7, none⟩ = some (.map (some mb)) ∧ w'.cell? ⟨wr.heap.size, 1, none⟩ = some (.string key) ∧ w'.cell? ⟨p, 2, none⟩ = some (.int .i64 ((en : Int) + 1)))) (by kernel_rfl) ?_ (fun hHeld => ?_)
  · go_keep
  refine takeD 0 50 (.pointer (some ⟨g, n * 8, none⟩)) rfl rfl (by kernel_rfl) (by kernel_rfl) (by kernel_rfl) (fun _ _ _ h => h) (Or.inl ⟨by rfl, ?_⟩) (by assumption) ?_
  · intro w hSw
    go_simp
  simp only [Act.put, List.setIfInBounds_toArray, List.set_cons_zero, List.set_cons_succ]
  refine takeD 1 51 (.pointer (some ⟨g, n * 8, none⟩)) rfl rfl (by kernel_rfl) (by kernel_rfl) (by kernel_rfl) (fun _ _ _ h => h) (Or.inl ⟨by rfl, ?_⟩) (by assumption) ?_
  · intro w hSw
    go_simp
  simp only [Act.put, List.setIfInBounds_toArray, List.set_cons_zero, List.set_cons_succ]
  refine takeD 2 52 (.pointer (some ⟨g, n * 8, none⟩)) rfl rfl (by kernel_rfl) (by kernel_rfl) (by kernel_rfl) (fun _ _ _ h => h) (Or.inl ⟨by rfl, ?_⟩) (by assumption) ?_
  · intro w hSw
    go_simp
  simp only [Act.put, List.setIfInBounds_toArray, List.set_cons_zero, List.set_cons_succ]
  refine takeD 3 53 (.pointer (some ⟨g, n * 8 + 7, none⟩)) rfl rfl (by kernel_rfl) (by kernel_rfl) (by kernel_rfl) (fun _ _ _ h => h) (Or.inl ⟨by rfl, ?_⟩) (by assumption) ?_
  · intro w hSw
    go_simp
  simp only [Act.put, List.setIfInBounds_toArray, List.set_cons_zero, List.set_cons_succ]
  refine takeD 4 54 (.map (some mb)) rfl rfl (by kernel_rfl) (by kernel_rfl) (by kernel_rfl) (fun _ _ _ h => h) (Or.inl ⟨by rfl, ?_⟩) (by assumption) ?_
  · intro w hSw
    go_simp
  simp only [Act.put, List.setIfInBounds_toArray, List.set_cons_zero, List.set_cons_succ]
  refine takeD 5 55 (.pointer (some ⟨wr.heap.size, 1, none⟩)) rfl rfl (by kernel_rfl) (by kernel_rfl) (by kernel_rfl) (fun _ _ _ h => h) (Or.inl ⟨by rfl, ?_⟩) (by assumption) ?_
  · intro w hSw
    go_simp
  simp only [Act.put, List.setIfInBounds_toArray, List.set_cons_zero, List.set_cons_succ]
  refine takeD 6 56 (.string key) rfl rfl (by kernel_rfl) (by kernel_rfl) (by kernel_rfl) (fun _ _ _ h => h) (Or.inl ⟨by rfl, ?_⟩) (by assumption) ?_
  · intro w hSw
    go_simp
  simp only [Act.put, List.setIfInBounds_toArray, List.set_cons_zero, List.set_cons_succ]
  refine takeD 7 57 (.pointer (some ⟨wr.heap.size, 1, none⟩)) rfl rfl (by kernel_rfl) (by kernel_rfl) (by kernel_rfl) (fun _ _ _ h => h) (Or.inl ⟨by rfl, ?_⟩) (by assumption) ?_
  · intro w hSw
    go_simp
  simp only [Act.put, List.setIfInBounds_toArray, List.set_cons_zero, List.set_cons_succ]
  refine takeD 8 58 (.string key) rfl rfl (by kernel_rfl) (by kernel_rfl) (by kernel_rfl) (fun _ _ _ h => h) (Or.inl ⟨by rfl, ?_⟩) (by assumption) ?_
  · intro w hSw
    go_simp
  simp only [Act.put, List.setIfInBounds_toArray, List.set_cons_zero, List.set_cons_succ]
  refine takeD 9 59 (.pointer (some ⟨p, 0, none⟩)) rfl rfl (by kernel_rfl) (by kernel_rfl) (by kernel_rfl) (fun _ _ _ h => h) (Or.inl ⟨by rfl, ?_⟩) (by assumption) ?_
  · intro w hSw
    go_simp
  simp only [Act.put, List.setIfInBounds_toArray, List.set_cons_zero, List.set_cons_succ]
  refine takeD 10 60 (.pointer (some ⟨p, 0, none⟩)) rfl rfl (by kernel_rfl) (by kernel_rfl) (by kernel_rfl) (fun _ _ _ h => h) (Or.inl ⟨by rfl, ?_⟩) (by assumption) ?_
  · intro w hSw
    go_simp
  simp only [Act.put, List.setIfInBounds_toArray, List.set_cons_zero, List.set_cons_succ]
  refine takeD 11 61 (.pointer (some ⟨p, 2, none⟩)) rfl rfl (by kernel_rfl) (by kernel_rfl) (by kernel_rfl) (fun _ _ _ h => h) (Or.inl ⟨by rfl, ?_⟩) (by assumption) ?_
  · intro w hSw
    go_simp
  simp only [Act.put, List.setIfInBounds_toArray, List.set_cons_zero, List.set_cons_succ]
  refine takeD 12 62 (.int .i64 ((en : Int) + 1)) rfl rfl (by kernel_rfl) (by kernel_rfl) (by kernel_rfl) (fun _ _ _ h => h) (Or.inl ⟨by rfl, ?_⟩) (by assumption) ?_
  · intro w hSw
    go_simp
  simp only [Act.put, List.setIfInBounds_toArray, List.set_cons_zero, List.set_cons_succ]
  refine takeD 13 63 (.pointer (some ⟨g, n * 8, none⟩)) rfl rfl (by kernel_rfl) (by kernel_rfl) (by kernel_rfl) (fun _ _ _ h => h) (Or.inl ⟨by rfl, ?_⟩) (by assumption) ?_
  · intro w hSw
    go_simp
  simp only [Act.put, List.setIfInBounds_toArray, List.set_cons_zero, List.set_cons_succ]
  refine takeD 14 64 (.pointer (some ⟨g, n * 8 + 6, none⟩)) rfl rfl (by kernel_rfl) (by kernel_rfl) (by kernel_rfl) (fun _ _ _ h => h) (Or.inl ⟨by rfl, ?_⟩) (by assumption) ?_
  · intro w hSw
    go_simp
  simp only [Act.put, List.setIfInBounds_toArray, List.set_cons_zero, List.set_cons_succ]
  refine wpAnyH_ready (rs := [15]) (by kernel_rfl) (by simp) ?_
  refine AllReadyH.cons (o := _) rfl (fun K hK => ?_) AllReadyH.nil
  go_simp
  refine hK.out _ _ ?_ (fun hHeld => ?_)
  · exact ⟨s7, s1, s2⟩
  clear hK K
  refine wpAnyH_ready (rs := [16]) (by kernel_rfl) (by simp) ?_
  refine AllReadyH.cons (o := _) rfl (fun K hK => ?_) AllReadyH.nil
  go_simp
  refine hK.out _ _ ?_ (fun hHeld => ?_)
  · exact ⟨u7, u1, u2⟩
  clear hK K
  refine takeD 17 66 (.int .i64 stE) rfl rfl (by kernel_rfl) (by kernel_rfl) (by kernel_rfl) (fun _ _ _ h => h) (Or.inl ⟨by rfl, ?_⟩) (by assumption) ?_
  · intro w hSw
    go_simp
  simp only [Act.put, List.setIfInBounds_toArray, List.set_cons_zero, List.set_cons_succ]
  refine wpAnyH_ready (rs := [18]) (by kernel_rfl) (by simp) ?_
  refine AllReadyH.cons (o := _) rfl (fun K hK => ?_) AllReadyH.nil
  go_simp
  refine hK.out _ _ ?_ (fun hHeld => ?_)
  · exact ⟨v7, v1, v2⟩
  clear hK K
  refine wpAnyH_done (by kernel_rfl) ?_ _
  obtain ⟨z0, z1, z2, z3, z4⟩ := four HZ6.out
  obtain ⟨x0, x1, x2, x3⟩ := HM6.out.ob.eight
  go_wp2
  go_ret
  exact ⟨rfl, _, HM6.out.due hp true, rfl⟩

set_option maxRecDepth 100000 in
set_option maxHeartbeats 8000000 in
theorem oaddTF {w0 wr : World} {p : Nat} {du : Bool} {en : Nat} {ls : List Ol} {l : Ol} {g cap : Nat} {key value : ByteArray} {mb : Nat} {ks2 : List ByteArray} (h : OMid w0 wr wr p du en (.slice (some ⟨g, 0, none⟩) (ls.length + 1) cap) (ls ++ [l])) (hp : p < w0.heap.size) (hen : en < 200)
    (hkey : key.size ≤ maxLen) (m1 : l.mv = .map (some mb)) (m2 : l.FM = [mb]) (mt : Takes wr mb key ks2 true) (hk4 : l.k = 4) (mok : seenOk { l with key := key, ks := ks2 }) {X : RT} (hv : ValAt value X) (hfit : PL.fits { l.pl with key := key }) :
    Calls Tryz.prog 86 #[.pointer (some ⟨p, 0, none⟩), .agg #[.int .i64 l.k, .string key, .string value, .bool false]] wr fun e w' => e = .returned (.bool true) ∧ ∃ l', OMid w0 wr w' p false (en + 1) (.slice (some ⟨g, 0, none⟩) (ls.length + 1) cap) (ls ++ [l']) ∧ l'.pl = PL.put { l.pl with key := key } X := by
  obtain ⟨cur, kg, kc, kc2, k5, ktop, kpre, k6, k7, k8, k9, hl, -⟩ := h.parts
  have HBl : Hid (Below wr.heap.size wr (wr.alloc (.cells #[.int .i64 l.k, .string key, .string value, .bool false] 89))) := (Below.refl _ wr).alloc (Nat.le_refl _) _
  have Z0 := Lib.hid (heap_last wr (.cells #[.int .i64 l.k, .string key, .string value, .bool false] 89))
  have HM := Lib.hid h
  obtain ⟨x0, x1, x2, x3⟩ := (h.below HBl.out).ob.eight
  unfold maxLen at kc2
  have HT := Lib.hid mt
  have HK4 := Lib.hid hk4
  clear hk4
  have HV := Lib.hid (And.intro hv hfit)
  clear hv hfit
  have hen' : IntKind.i64.wrap ((en : Int) + 1) = (en : Int) + 1 := by rw [IntKind.wrap_i64]; omega
  clear h mt
  go_enter Tryz.func86, Tryz.ntmps86
  generalize hln : ls.length = n at *
  have g0 : (0 : Int) ≤ (n : Int) := by omega
  have g1 : (n : Int) < (n : Int) + 1 := by omega
  have g2 : ¬ (n : Int) < 0 := by omega
  have g3 : IntKind.i64.wrap (n : Int) = n := by rw [IntKind.wrap_i64]; omega
  go_wp2
  go_quiet (fail)
  have HW := Lib.hid (blw_drewN HBl.out nq)
  have Z1 : Hid (((wr.alloc (.cells #[.int .i64 l.k, .string key, .string value, .bool false] 89)).drewN nq).heap[wr.heap.size]? = some (.cells #[.int .i64 l.k, .string key, .string value, .bool false] 89 (0, 0))) := Z0.out
  generalize (wr.alloc (.cells #[.int .i64 l.k, .string key, .string value, .bool false] 89)).drewN nq = w1 at *
  clear nq HBl Z0 x0 x1 x2 x3
  have kg1 := (HW.out.block g k6).trans kg
  have c0 : w1.cell? ⟨g, n * 8, none⟩ = some (.int .i64 l.k) := by rw [cell_of kg1]; exact ktop 0 (by decide)
  obtain ⟨z0, z1, z2, z3, z4⟩ := four Z1.out
  go_wp2_with fail
  go_quiet (fail)
  replace HW := Lib.hid (blw_drewN HW.out nq)
  replace Z1 : Hid ((w1.drewN nq).heap[wr.heap.size]? = some (.cells #[.int .i64 l.k, .string key, .string value, .bool false] 89 (0, 0))) := Z1.out
  generalize w1.drewN nq = w2 at *
  clear nq c0 z0 z1 z2 z3 z4 kg1
  have kg1 := (HW.out.block g k6).trans kg
  have c7 : w2.cell? ⟨g, n * 8 + 7, none⟩ = some (.map (some mb)) := by rw [cell_of kg1, ← m1]; exact ktop 7 (by decide)
  obtain ⟨z0, z1, z2, z3, z4⟩ := four Z1.out
  have hmlt : mb < wr.heap.size := hl.lt mb (List.mem_append_right _ (List.mem_append_right _ (by rw [m2]; simp)))
  obtain ⟨vl, hvl⟩ := HT.out.look
  have hl0 : (Instr.lookup 138 (.map (some mb)) (.string key) true).run Tryz.prog w2 = .ok (.tuple #[vl, .bool true]) w2 := hvl w2 (HW.out.block mb hmlt)
  have hl1 : (Instr.lookup 138 (.map (some mb)) (.string key) true).run Tryz.prog w2.drew = .ok (.tuple #[vl, .bool true]) w2.drew := hvl w2.drew (HW.out.block mb hmlt)
  have hl2 : ∀ q, (Instr.lookup 138 (.map (some mb)) (.string key) true).run Tryz.prog (w2.drewN q) = .ok (.tuple #[vl, .bool true]) (w2.drewN q) := fun q => hvl (w2.drewN q) (HW.out.block mb hmlt)
  go_wp2_with fail
  go_quiet (fail)
  clear hl0 hl1 hl2
  have hk5 : (l.k == 5) = false := by rw [HK4.out]; decide
  replace HW := Lib.hid (blw_drewN HW.out nq)
  replace Z1 : Hid ((w2.drewN nq).heap[wr.heap.size]? = some (.cells #[.int .i64 l.k, .string key, .string value, .bool false] 89 (0, 0))) := Z1.out
  generalize w2.drewN nq = w3 at *
  clear nq c7 z0 z1 z2 z3 z4 kg1
  have kg1 := (HW.out.block g k6).trans kg
  obtain ⟨z0, z1, z2, z3, z4⟩ := four Z1.out
  have hM3 := HM.out.below HW.out
  obtain ⟨x0, x1, x2, x3⟩ := hM3.ob.eight
  have hpw : p < wr.heap.size := Nat.lt_of_lt_of_le hp HM.out.hs
  have hpg : p ≠ g := by omega
  have hmg : mb ≠ g := fun e => k9 (by rw [← e]; exact List.mem_append_right _ (List.mem_append_right _ (by rw [m2]; simp)))
  have hmp : mb ≠ p := fun e => by have := hl.old mb (List.mem_append_right _ (List.mem_append_right _ (by rw [m2]; simp))); omega
  go_wp2_with fail
  have hM4 : OMid w0 wr (w3.setCell ⟨p, 2, none⟩ (.int .i64 ((en : Int) + 1))) p du (en + 1) (.slice (some ⟨g, 0, none⟩) (n + 1) cap) (ls ++ [l]) := hM3.ent hp (en + 1)
  have kg2 : (w3.setCell ⟨p, 2, none⟩ (.int .i64 ((en : Int) + 1))).heap[g]? = some (.cells cur 140 (0, 0)) := (Below.heap_setCell _ _ _ _ (by exact fun e => hpg e.symm)).trans kg1
  have kz2 : (w3.setCell ⟨p, 2, none⟩ (.int .i64 ((en : Int) + 1))).heap[wr.heap.size]? = some (.cells #[.int .i64 l.k, .string key, .string value, .bool false] 89 (0, 0)) := (Below.heap_setCell _ _ _ _ (by show wr.heap.size ≠ p; omega)).trans Z1.out
  have km2 : (w3.setCell ⟨p, 2, none⟩ (.int .i64 ((en : Int) + 1))).heap[mb]? = wr.heap[mb]? := (Below.heap_setCell _ _ _ _ (by exact hmp)).trans (HW.out.block mb hmlt)
  generalize w3.setCell ⟨p, 2, none⟩ (.int .i64 ((en : Int) + 1)) = w4 at *
  clear x0 x1 x2 x3 z0 z1 z2 z3 z4 kg1 hM3 HW Z1
  obtain ⟨x0, x1, x2, x3⟩ := hM4.ob.eight
  obtain ⟨z0, z1, z2, z3, z4⟩ := four kz2
  replace x2 : w4.cell? ⟨p, 2, none⟩ = some (.int .i64 ((en : Int) + 1)) := x2
  have c6 : w4.cell? ⟨g, n * 8 + 6, none⟩ = some (.string l.key) := by rw [cell_of kg2]; exact ktop 6 (by decide)
  have c7 : w4.cell? ⟨g, n * 8 + 7, none⟩ = some (.map (some mb)) := by rw [cell_of kg2, ← m1]; exact ktop 7 (by decide)
  have f6 : ∀ o, w4.frozen? ⟨g, o, none⟩ = false := fun o => by simp only [World.frozen?, kg2]; simp
  have kg3 : (w4.setCell ⟨g, n * 8 + 6, none⟩ (.string key)).heap[g]? = some (.cells (cur.setIfInBounds (n * 8 + 6) (.string key)) 140 (0, 0)) := heap_set kg2 _ _
  have kz3 : (w4.setCell ⟨g, n * 8 + 6, none⟩ (.string key)).heap[wr.heap.size]? = _ := (Below.heap_setCell _ _ _ _ (by show wr.heap.size ≠ g; omega)).trans kz2
  have kp3 : (w4.setCell ⟨g, n * 8 + 6, none⟩ (.string key)).heap[p]? = _ := (Below.heap_setCell _ _ _ _ (by exact hpg)).trans hM4.ob
  have s7 : (w4.setCell ⟨g, n * 8 + 6, none⟩ (.string key)).cell? ⟨g, n * 8 + 7, none⟩ = some (.map (some mb)) := by rw [cell_of kg3, Array.getElem?_setIfInBounds_ne (by omega), ← m1]; exact ktop 7 (by decide)
  have s1 : (w4.setCell ⟨g, n * 8 + 6, none⟩ (.string key)).cell? ⟨wr.heap.size, 1, none⟩ = some (.string key) := by rw [cell_of kz3]; rfl
  have s2 : (w4.setCell ⟨g, n * 8 + 6, none⟩ (.string key)).cell? ⟨p, 2, none⟩ = some (.int .i64 ((en : Int) + 1)) := by rw [cell_of kp3]; rfl
  obtain ⟨vE, stE, w5, hE, hg5', hst⟩ := HT.out.entry (w4.setCell ⟨g, n * 8 + 6, none⟩ (.string key)).drew ((Below.heap_setCell _ _ _ _ (by exact hmg)).trans km2)
  have hg5 : (w4.setCell ⟨g, n * 8 + 6, none⟩ (.string key)).grownBy w5 (some mb) := ⟨hg5'.os, hg5'.tape, hg5'.output, hg5'.size, hg5'.block⟩
  clear hg5'
  obtain ⟨w6, hS, hg6, hsn⟩ := hst w5 ((en : Int) + 1) rfl
  have hsz5 : ∀ b, b < wr.heap.size + 1 → b ≠ mb → w5.heap[b]? = (w4.setCell ⟨g, n * 8 + 6, none⟩ (.string key)).heap[b]? := fun b h1 h2 => hg5.block b (by have := (Array.getElem?_eq_some_iff.1 kz3).1; omega) (fun e => by injection e with e; exact h2 e)
  have hsz6 : ∀ b, b < wr.heap.size + 1 → b ≠ mb → w6.heap[b]? = w5.heap[b]? := fun b h1 h2 => hg6.block b (by have := (Array.getElem?_eq_some_iff.1 kz3).1; have := hg5.size; omega) (fun e => by injection e with e; exact h2 e)
  have kg5 := (hsz5 g (by omega) (fun e => hmg e.symm)).trans kg3
  have kz5 := (hsz5 wr.heap.size (by omega) (by omega)).trans kz3
  have kp5 := (hsz5 p (by omega) (fun e => hmp e.symm)).trans kp3
  have u7 : w5.cell? ⟨g, n * 8 + 7, none⟩ = some (.map (some mb)) := by rw [cell_of kg5, Array.getElem?_setIfInBounds_ne (by omega), ← m1]; exact ktop 7 (by decide)
  have u1 : w5.cell? ⟨wr.heap.size, 1, none⟩ = some (.string key) := by rw [cell_of kz5]; rfl
  have u2 : w5.cell? ⟨p, 2, none⟩ = some (.int .i64 ((en : Int) + 1)) := by rw [cell_of kp5]; rfl
  have kg6 := (hsz6 g (by omega) (fun e => hmg e.symm)).trans kg5
  have kz6 := (hsz6 wr.heap.size (by omega) (by omega)).trans kz5
  have kp6 := (hsz6 p (by omega) (fun e => hmp e.symm)).trans kp5
  have v7 : w6.cell? ⟨g, n * 8 + 7, none⟩ = some (.map (some mb)) := by rw [cell_of kg6, Array.getElem?_setIfInBounds_ne (by omega), ← m1]; exact ktop 7 (by decide)
  have v1 : w6.cell? ⟨wr.heap.size, 1, none⟩ = some (.string key) := by rw [cell_of kz6]; rfl
  have v2 : w6.cell? ⟨p, 2, none⟩ = some (.int .i64 ((en : Int) + 1)) := by rw [cell_of kp6]; rfl
  have HM6 : Hid (OMid w0 wr w6 p du (en + 1) (.slice (some ⟨g, 0, none⟩) (n + 1) cap) (ls ++ [{ l with key := key, ks := ks2 }])) := by
    rw [← hln] at hM4 hg5 ⊢
    exact hM4.key hp kg2 m1 hkey hg5 hg6 hsn mok
  have HZ6 := Lib.hid kz6
  clear hM4 kg3 kz3 kp3 kg5 kz5 kp5 kg6 kz6 kp6 hsz5 hsz6 hg5 hg6 hst hsn
  refine wp_region_held_drew (S := (fun w' => w'.cell? ⟨g, n * 8 + 7, none⟩ = some (.map (some mb)) ∧ w'.cell? ⟨wr.heap.size, 1, none⟩ = some (.string key) ∧ w'.cell? ⟨p, 2, none⟩ = some (.int .i64 ((en : Int) + 1)))) (by kernel_rfl) ?_ (fun hHeld => ?_)
  · go_keep
  refine takeD 0 50 (.pointer (some ⟨g, n * 8, none⟩)) rfl rfl (by kernel_rfl) (by kernel_rfl) (by kernel_rfl) (fun _ _ _ h => h) (Or.inl ⟨by rfl, ?_⟩) (by assumption) ?_
  · intro w hSw
    go_simp
  simp only [Act.put, List.setIfInBounds_toArray, List.set_cons_zero, List.set_cons_succ]
  refine takeD 1 51 (.pointer (some ⟨g, n * 8, none⟩)) rfl rfl (by kernel_rfl) (by kernel_rfl) (by kernel_rfl) (fun _ _ _ h => h) (Or.inl ⟨by rfl, ?_⟩) (by assumption) ?_
  · intro w hSw
    go_simp
  simp only [Act.put, List.setIfInBounds_toArray, List.set_cons_zero, List.set_cons_succ]
  refine takeD 2 52 (.pointer (some ⟨g, n * 8, none⟩)) rfl rfl (by kernel_rfl) (by kernel_rfl) (by kernel_rfl) (fun _ _ _ h => h) (Or.inl ⟨by rfl, ?_⟩) (by assumption) ?_
  · intro w hSw
    go_simp
  simp only [Act.put, List.setIfInBounds_toArray, List.set_cons_zero, List.set_cons_succ]
  refine takeD 3 53 (.pointer (some ⟨g, n * 8 + 7, none⟩)) rfl rfl (by kernel_rfl) (by kernel_rfl) (by kernel_rfl) (fun _ _ _ h => h) (Or.inl ⟨by rfl, ?_⟩) (by assumption) ?_
  · intro w hSw
    go_simp
  simp only [Act.put, List.setIfInBounds_toArray, List.set_cons_zero, List.set_cons_succ]
  refine takeD 4 54 (.map (some mb)) rfl rfl (by kernel_rfl) (by kernel_rfl) (by kernel_rfl) (fun _ _ _ h => h) (Or.inl ⟨by rfl, ?_⟩) (by assumption) ?_
  · intro w hSw
    go_simp
  simp only [Act.put, List.setIfInBounds_toArray, List.set_cons_zero, List.set_cons_succ]
  refine takeD 5 55 (.pointer (some ⟨wr.heap.size, 1, none⟩)) rfl rfl (by kernel_rfl) (by kernel_rfl) (by kernel_rfl) (fun _ _ _ h => h) (Or.inl ⟨by rfl, ?_⟩) (by assumption) ?_
  · intro w hSw
    go_simp
  simp only [Act.put, List.setIfInBounds_toArray, List.set_cons_zero, List.set_cons_succ]
  refine takeD 6 56 (.string key) rfl rfl (by kernel_rfl) (by kernel_rfl) (by kernel_rfl) (fun _ _ _ h => h) (Or.inl ⟨by rfl, ?_⟩) (by assumption) ?_
  · intro w hSw
    go_simp
  simp only [Act.put, List.setIfInBounds_toArray, List.set_cons_zero, List.set_cons_succ]
  refine takeD 7 57 (.pointer (some ⟨wr.heap.size, 1, none⟩)) rfl rfl (by kernel_rfl) (by kernel_rfl) (by kernel_rfl) (fun _ _ _ h => h) (Or.inl ⟨by rfl, ?_⟩) (by assumption) ?_
  · intro w hSw
    go_simp
  simp only [Act.put, List.setIfInBounds_toArray, List.set_cons_zero, List.set_cons_succ]
  refine takeD 8 58 (.string key) rfl rfl (by kernel_rfl) (by kernel_rfl) (by kernel_rfl) (fun _ _ _ h => h) (Or.inl ⟨by rfl, ?_⟩) (by assumption) ?_
  · intro w hSw
    go_simp
  simp only [Act.put, List.setIfInBounds_toArray, List.set_cons_zero, List.set_cons_succ]
  refine takeD 9 59 (.pointer (some ⟨p, 0, none⟩)) rfl rfl (by kernel_rfl) (by kernel_rfl) (by kernel_rfl) (fun _ _ _ h => h) (Or.inl ⟨by rfl, ?_⟩) (by assumption) ?_
  · intro w hSw
    go_simp
  simp only [Act.put, List.setIfInBounds_toArray, List.set_cons_zero, List.set_cons_succ]
  refine takeD 10 60 (.pointer (some ⟨p, 0, none⟩)) rfl rfl (by kernel_rfl) (by kernel_rfl) (by kernel_rfl) (fun _ _ _ h => h) (Or.inl ⟨by rfl, ?_⟩) (by assumption) ?_
  · intro w hSw
    go_simp
  simp only [Act.put, List.setIfInBounds_toArray, List.set_cons_zero, List.set_cons_succ]
  refine takeD 11 61 (.pointer (some ⟨p, 2, none⟩)) rfl rfl (by kernel_rfl) (by kernel_rfl) (by kernel_rfl) (fun _ _ _ h => h) (Or.inl ⟨by rfl, ?_⟩) (by assumption) ?_
  · intro w hSw
    go_simp
  simp only [Act.put, List.setIfInBounds_toArray, List.set_cons_zero, List.set_cons_succ]
  refine takeD 12 62 (.int .i64 ((en : Int) + 1)) rfl rfl (by kernel_rfl) (by kernel_rfl) (by kernel_rfl) (fun _ _ _ h => h) (Or.inl ⟨by rfl, ?_⟩) (by assumption) ?_
  · intro w hSw
    go_simp
  simp only [Act.put, List.setIfInBounds_toArray, List.set_cons_zero, List.set_cons_succ]
  refine takeD 13 63 (.pointer (some ⟨g, n * 8, none⟩)) rfl rfl (by kernel_rfl) (by kernel_rfl) (by kernel_rfl) (fun _ _ _ h => h) (Or.inl ⟨by rfl, ?_⟩) (by assumption) ?_
  · intro w hSw
    go_simp
  simp only [Act.put, List.setIfInBounds_toArray, List.set_cons_zero, List.set_cons_succ]
  refine takeD 14 64 (.pointer (some ⟨g, n * 8 + 6, none⟩)) rfl rfl (by kernel_rfl) (by kernel_rfl) (by kernel_rfl) (fun _ _ _ h => h) (Or.inl ⟨by rfl, ?_⟩) (by assumption) ?_
  · intro w hSw
    go_simp
  simp only [Act.put, List.setIfInBounds_toArray, List.set_cons_zero, List.set_cons_succ]
  refine wpAnyH_ready (rs := [15]) (by kernel_rfl) (by simp) ?_
  refine AllReadyH.cons (o := _) rfl (fun K hK => ?_) AllReadyH.nil
  go_simp
  refine hK.out _ _ ?_ (fun hHeld => ?_)
  · exact ⟨s7, s1, s2⟩
  clear hK K
  refine wpAnyH_ready (rs := [16]) (by kernel_rfl) (by simp) ?_
  refine AllReadyH.cons (o := _) rfl (fun K hK => ?_) AllReadyH.nil
  go_simp
  refine hK.out _ _ ?_ (fun hHeld => ?_)
  · exact ⟨u7, u1, u2⟩
  clear hK K
  refine takeD 17 66 (.int .i64 stE) rfl rfl (by kernel_rfl) (by kernel_rfl) (by kernel_rfl) (fun _ _ _ h => h) (Or.inl ⟨by rfl, ?_⟩) (by assumption) ?_
  · intro w hSw
    go_simp
  simp only [Act.put, List.setIfInBounds_toArray, List.set_cons_zero, List.set_cons_succ]
  refine wpAnyH_ready (rs := [18]) (by kernel_rfl) (by simp) ?_
  refine AllReadyH.cons (o := _) rfl (fun K hK => ?_) AllReadyH.nil
  go_simp
  refine hK.out _ _ ?_ (fun hHeld => ?_)
  · exact ⟨v7, v1, v2⟩
  clear hK K
  refine wpAnyH_done (by kernel_rfl) ?_ _
  obtain ⟨z0, z1, z2, z3, z4⟩ := four HZ6.out
  obtain ⟨x0, x1, x2, x3⟩ := HM6.out.ob.eight
  go_wp2_with fail
  have h6 := HM6.out.due hp false
  have h6n := h6.here
  rw [← hln] at h6n
  refine (ogive h6n hp HV.out.2 (by omega) HV.out.1).mono ?_
  rintro e w7 ⟨rfl, l', hM, hl'⟩
  rw [hln] at hM
  have HM7 := Lib.hid (And.intro (hM.later h6.kp) hl')
  clear hM hl' h6 h6n x0 x1 x2 x3 z0 z1 z2 z3 z4
  go_wp2
  go_ret
  exact ⟨rfl, l', HM7.out.1, HM7.out.2⟩

end Go.Proofs.YtmcjghhmcmkomaaGreatDoor
