/-
  What is proved: the program's OrderSame tells of two orders whether they are the same.
-/
import Derived.Test.YtjopjdidbkhmnaaOrdSameS
namespace Go.Proofs.Ytjopjdidbkhmnaa
open Go Go.RowKit

/-- One operation of a drawn region is taken first: what it leaves lies in the slot d. -/
theorem takeD {P : Program} {ops : Array Oper} {Q : Exit → Act → World → Prop} {md : Region.Mode} {S : World → Prop} (i d : Nat) (v : Value) {oi : Oper} {fuel : Nat} {listed : Array Bool} {a : Act} {w : World} (hi : ops[i]? = some oi) (hd : oi.dst = some d)
    (hs : Region.noSelect ops = true) (hf : Region.free md ops listed i = true) (hr : (Region.ready md ops listed).contains i = true)
    (hQ : ∀ c a w, Q (.panic c) (a.put (some d) v) w → Q (.panic c) a w) (hy : YieldsIf P ops S oi v a) (hS : S w)
    (h : wpAnyH P md ops Q S fuel (listed.setIfInBounds i true) (a.put (some d) v) w) : wpAnyH P md ops Q S (fuel + 1) listed a w :=
  wpAnyH_take hi hs hf hr (by rw [hd]; exact hQ) hy hS (by rw [hd]; exact h)

theorem ret_head {fn : Func} {i : Nat} (hres : fn.results = #[ResultVar.cell i 66]) {tmps : Array Value} {w : World} {b : Nat} {t : TypeId} {a0 a1 a2 a3 a4 a5 a6 a7 : Value}
    (ht : tmps[i]?.getD undef = .pointer (some ⟨b, 0, none⟩)) (h : w.heap[b]? = some (.cells #[a0, a1, a2, a3, a4, a5, a6, a7] t (0, 0))) : (results fn tmps).run Try.prog w = .ok (.agg #[a0, a1, a2, a3, a4, a5, a6, a7]) w := by
  have c0 : w.cell? ⟨b, 0, none⟩ = some a0 := cell_of h 0
  have c1 : w.cell? ⟨b, 1, none⟩ = some a1 := cell_of h 1
  have c2 : w.cell? ⟨b, 2, none⟩ = some a2 := cell_of h 2
  have c3 : w.cell? ⟨b, 3, none⟩ = some a3 := cell_of h 3
  have c4 : w.cell? ⟨b, 4, none⟩ = some a4 := cell_of h 4
  have c5 : w.cell? ⟨b, 5, none⟩ = some a5 := cell_of h 5
  have c6 : w.cell? ⟨b, 6, none⟩ = some a6 := cell_of h 6
  have c7 : w.cell? ⟨b, 7, none⟩ = some a7 := cell_of h 7
  simp [results, hres, ht, go_sem, c0, c1, c2, c3, c4, c5, c6, c7]

set_option maxHeartbeats 1000000 in
theorem impl_head (n t : ByteArray) (l h : Int) (p : Pac) (mv nv : Value) (w : World) :
    Calls Try.prog 42 #[.agg #[.string n, .string t, .int .i64 l, .int .i64 h, mv, .int .i64 p.up, .int .i64 p.down, .int .i64 p.ups, .int .i64 p.downs, nv]] w fun e w' => e = .returned (.agg #[.string n, .string t, .int .i64 l, .int .i64 h, .int .i64 p.up, .int .i64 p.down, .int .i64 p.ups, .int .i64 p.downs]) ∧ Below w.heap.size w w' := by
  have HX := Lib.hid ((Bx.start w #[.string n, .string t, .int .i64 l, .int .i64 h, mv, .int .i64 p.up, .int .i64 p.down, .int .i64 p.ups, .int .i64 p.downs, nv] 48).add #[.string n, .string t, .int .i64 l, .int .i64 h, .int .i64 p.up, .int .i64 p.down, .int .i64 p.ups, .int .i64 p.downs] 66)
  simp only [World.size_alloc] at HX
  go_enter Try.func42, Try.ntmps42
  go_wp2
  exact bodyPost_ret (ret_head Try.results42 rfl HX.out.blk) rfl ⟨rfl, HX.out.below⟩


set_option maxRecDepth 100000 in
set_option maxHeartbeats 8000000 in
theorem impl_orderSame {a b : Ord} {mv1 nv1 mv2 nv2 : Value} {FM FN FM' FN' : List Nat} (w : World) (ha : OrdAt w a mv1 nv1 FM FN) (hb : OrdAt w b mv2 nv2 FM' FN') :
    Calls Try.prog 27 #[.agg #[.string a.name, .string a.target, .int .i64 a.low, .int .i64 a.high, mv1, .int .i64 a.pace.up, .int .i64 a.pace.down, .int .i64 a.pace.ups, .int .i64 a.pace.downs, nv1], .agg #[.string b.name, .string b.target, .int .i64 b.low, .int .i64 b.high, mv2, .int .i64 b.pace.up, .int .i64 b.pace.down, .int .i64 b.pace.ups, .int .i64 b.pace.downs, nv2]] w fun e w' => e = .returned (.bool (sameO a b)) ∧ Below w.heap.size w w' := by
  obtain ⟨o1, ca1, e1, hl1⟩ := RowAt.slice ha.mets
  obtain ⟨o2, ca2, e2, hl2⟩ := RowAt.slice ha.notes
  obtain ⟨o3, ca3, e3, hl3⟩ := RowAt.slice hb.mets
  obtain ⟨o4, ca4, e4, hl4⟩ := RowAt.slice hb.notes
  have HE := Lib.hid fun wr (h : Below w.heap.size w wr) => equal_met wr (RowAt.stay ha.mets (by decide) h (Nat.le_refl _)) (RowAt.stay hb.mets (by decide) h (Nat.le_refl _))
  have HF := Lib.hid fun wr (h : Below w.heap.size w wr) => equal_not wr (RowAt.stay ha.notes (by decide) h (Nat.le_refl _)) (RowAt.stay hb.notes (by decide) h (Nat.le_refl _))
  clear ha hb
  obtain ⟨n1, t1, l1, h1, m1, p1, k1⟩ := a
  obtain ⟨n2, t2, l2, h2, m2, p2, k2⟩ := b
  dsimp only at *
  subst e1 e2 e3 e4
  clear hl1 hl2 hl3 hl4
  have HX := Lib.hid (Two.start w #[.string n1, .string t1, .int .i64 l1, .int .i64 h1, .slice o1 m1.length ca1, .int .i64 p1.up, .int .i64 p1.down, .int .i64 p1.ups, .int .i64 p1.downs, .slice o2 k1.length ca2] #[.string n2, .string t2, .int .i64 l2, .int .i64 h2, .slice o3 m2.length ca3, .int .i64 p2.up, .int .i64 p2.down, .int .i64 p2.ups, .int .i64 p2.downs, .slice o4 k2.length ca4] 48)
  have hq := eql_head ⟨n1, t1, l1, h1, p1⟩ ⟨n2, t2, l2, h2, p2⟩
  dsimp only at hq
  have hgd := fun op a b' (x y : Array Value) w => run_eqGuard_agg (P := Try.prog) w op 66 a b' x y (by kernel_rfl)
  by_cases q1 : (⟨n1, t1, l1, h1, p1⟩ : Head) = ⟨n2, t2, l2, h2, p2⟩
  case neg =>
    rw [sameO_no q1] at hq
    have HN : Hid (sameO (⟨n1, t1, l1, h1, m1, p1, k1⟩ : Ord) ⟨n2, t2, l2, h2, m2, p2, k2⟩ = false) := sameO_no fun e => q1 (by simp_all)
    rw [HN.out]
    clear HN q1 HE HF
    go_enter Try.func27, Try.ntmps27
    go_wp2
    have x0 := HX.out.1.cell 0; have x1 := HX.out.1.cell 1; have x2 := HX.out.1.cell 2; have x3 := HX.out.1.cell 3; have x4 := HX.out.1.cell 4; have x5 := HX.out.1.cell 5; have x6 := HX.out.1.cell 6; have x7 := HX.out.1.cell 7; have x8 := HX.out.1.cell 8; have x9 := HX.out.1.cell 9; have y0 := HX.out.2.cell 0; have y1 := HX.out.2.cell 1; have y2 := HX.out.2.cell 2; have y3 := HX.out.2.cell 3; have y4 := HX.out.2.cell 4; have y5 := HX.out.2.cell 5; have y6 := HX.out.2.cell 6; have y7 := HX.out.2.cell 7; have y8 := HX.out.2.cell 8; have y9 := HX.out.2.cell 9
    replace HX := Lib.hid (HX.out.drew 1)
    refine wp_region_held_drew (S := fun w' => w'.cell? ⟨w.heap.size, 0, none⟩ = some (.string n1) ∧ w'.cell? ⟨w.heap.size, 1, none⟩ = some (.string t1) ∧ w'.cell? ⟨w.heap.size, 2, none⟩ = some (.int .i64 l1) ∧ w'.cell? ⟨w.heap.size, 3, none⟩ = some (.int .i64 h1) ∧ w'.cell? ⟨w.heap.size, 4, none⟩ = some (.slice o1 m1.length ca1) ∧ w'.cell? ⟨w.heap.size, 5, none⟩ = some (.int .i64 p1.up) ∧ w'.cell? ⟨w.heap.size, 6, none⟩ = some (.int .i64 p1.down) ∧ w'.cell? ⟨w.heap.size, 7, none⟩ = some (.int .i64 p1.ups) ∧ w'.cell? ⟨w.heap.size, 8, none⟩ = some (.int .i64 p1.downs) ∧ w'.cell? ⟨w.heap.size, 9, none⟩ = some (.slice o2 k1.length ca2) ∧ w'.cell? ⟨w.heap.size + 1, 0, none⟩ = some (.string n2) ∧ w'.cell? ⟨w.heap.size + 1, 1, none⟩ = some (.string t2) ∧ w'.cell? ⟨w.heap.size + 1, 2, none⟩ = some (.int .i64 l2) ∧ w'.cell? ⟨w.heap.size + 1, 3, none⟩ = some (.int .i64 h2) ∧ w'.cell? ⟨w.heap.size + 1, 4, none⟩ = some (.slice o3 m2.length ca3) ∧ w'.cell? ⟨w.heap.size + 1, 5, none⟩ = some (.int .i64 p2.up) ∧ w'.cell? ⟨w.heap.size + 1, 6, none⟩ = some (.int .i64 p2.down) ∧ w'.cell? ⟨w.heap.size + 1, 7, none⟩ = some (.int .i64 p2.ups) ∧ w'.cell? ⟨w.heap.size + 1, 8, none⟩ = some (.int .i64 p2.downs) ∧ w'.cell? ⟨w.heap.size + 1, 9, none⟩ = some (.slice o4 k2.length ca4)) (by kernel_rfl) ?_ (fun hHeld => ?_)
    · go_keep
    refine takeD 0 5 (.agg #[.string n1, .string t1, .int .i64 l1, .int .i64 h1, .slice o1 m1.length ca1, .int .i64 p1.up, .int .i64 p1.down, .int .i64 p1.ups, .int .i64 p1.downs, .slice o2 k1.length ca2]) rfl rfl (by kernel_rfl) (by kernel_rfl) (by kernel_rfl) (fun _ _ _ h => h) (Or.inl ⟨by rfl, ?_⟩) (by assumption) ?_
    · intro w hSw
      go_simp
    simp only [Act.put, List.setIfInBounds_toArray, List.set_cons_zero, List.set_cons_succ]
    refine takeD 2 7 (.agg #[.string n2, .string t2, .int .i64 l2, .int .i64 h2, .slice o3 m2.length ca3, .int .i64 p2.up, .int .i64 p2.down, .int .i64 p2.ups, .int .i64 p2.downs, .slice o4 k2.length ca4]) rfl rfl (by kernel_rfl) (by kernel_rfl) (by kernel_rfl) (fun _ _ _ h => h) (Or.inl ⟨by rfl, ?_⟩) (by assumption) ?_
    · intro w hSw
      go_simp
    simp only [Act.put, List.setIfInBounds_toArray, List.set_cons_zero, List.set_cons_succ]
    refine wpAnyH_ready (rs := [1]) (by kernel_rfl) (by simp) ?_
    refine AllReadyH.cons (o := { dst := some 6, op := Op.call { callee := Callee.value (Operand.func 42), args := #[Operand.tmp 5], argTypes := #[48] }, type := 66, pos := "l06_order.go:147", after := #[{ on := 0, ground := Ground.data }], guard := none }) rfl (fun K hK => ?_) AllReadyH.nil
    go_simp
    refine (impl_head _ _ _ _ _ _ _ _).mono ?_; rintro e w' ⟨rfl, hb⟩; replace HX := Lib.hid (HX.out.next hb); clear hb; clear x0 x1 x2 x3 x4 x5 x6 x7 x8 x9 y0 y1 y2 y3 y4 y5 y6 y7 y8 y9; have x0 := HX.out.1.cell 0; have x1 := HX.out.1.cell 1; have x2 := HX.out.1.cell 2; have x3 := HX.out.1.cell 3; have x4 := HX.out.1.cell 4; have x5 := HX.out.1.cell 5; have x6 := HX.out.1.cell 6; have x7 := HX.out.1.cell 7; have x8 := HX.out.1.cell 8; have x9 := HX.out.1.cell 9; have y0 := HX.out.2.cell 0; have y1 := HX.out.2.cell 1; have y2 := HX.out.2.cell 2; have y3 := HX.out.2.cell 3; have y4 := HX.out.2.cell 4; have y5 := HX.out.2.cell 5; have y6 := HX.out.2.cell 6; have y7 := HX.out.2.cell 7; have y8 := HX.out.2.cell 8; have y9 := HX.out.2.cell 9
    go_wp2_with fail
    refine hK.out _ _ ?_ (fun hHeld => ?_)
    · go_keep
    clear hK K
    refine wpAnyH_ready (rs := [3]) (by kernel_rfl) (by simp) ?_
    refine AllReadyH.cons (o := { dst := some 8, op := Op.call { callee := Callee.value (Operand.func 42), args := #[Operand.tmp 7], argTypes := #[48] }, type := 66, pos := "l06_order.go:147", after := #[{ on := 2, ground := Ground.data }, { on := 1, ground := Ground.chain }], guard := none }) rfl (fun K hK => ?_) AllReadyH.nil
    go_simp
    refine (impl_head _ _ _ _ _ _ _ _).mono ?_; rintro e w' ⟨rfl, hb⟩; replace HX := Lib.hid (HX.out.next hb); clear hb; clear x0 x1 x2 x3 x4 x5 x6 x7 x8 x9 y0 y1 y2 y3 y4 y5 y6 y7 y8 y9; have x0 := HX.out.1.cell 0; have x1 := HX.out.1.cell 1; have x2 := HX.out.1.cell 2; have x3 := HX.out.1.cell 3; have x4 := HX.out.1.cell 4; have x5 := HX.out.1.cell 5; have x6 := HX.out.1.cell 6; have x7 := HX.out.1.cell 7; have x8 := HX.out.1.cell 8; have x9 := HX.out.1.cell 9; have y0 := HX.out.2.cell 0; have y1 := HX.out.2.cell 1; have y2 := HX.out.2.cell 2; have y3 := HX.out.2.cell 3; have y4 := HX.out.2.cell 4; have y5 := HX.out.2.cell 5; have y6 := HX.out.2.cell 6; have y7 := HX.out.2.cell 7; have y8 := HX.out.2.cell 8; have y9 := HX.out.2.cell 9
    go_wp2_with fail
    refine hK.out _ _ ?_ (fun hHeld => ?_)
    · go_keep
    clear hK K
    refine takeD 4 9 (.bool false) rfl rfl (by kernel_rfl) (by kernel_rfl) (by kernel_rfl) (fun _ _ _ h => h) (Or.inl ⟨by rfl, ?_⟩) (by assumption) ?_
    · intro w hSw
      go_simp
    simp only [Act.put, List.setIfInBounds_toArray, List.set_cons_zero, List.set_cons_succ]
    refine takeD 5 10 (.bool false) rfl rfl (by kernel_rfl) (by kernel_rfl) (by kernel_rfl) (fun _ _ _ h => h) (Or.inl ⟨by rfl, ?_⟩) (by assumption) ?_
    · intro w hSw
      go_simp
    simp only [Act.put, List.setIfInBounds_toArray, List.set_cons_zero, List.set_cons_succ]
    refine takeD 6 11 undef rfl rfl (by kernel_rfl) (by kernel_rfl) (by kernel_rfl) (fun _ _ _ h => h) (Or.inr ⟨by rfl, rfl⟩) (by assumption) ?_
    simp only [Act.put, List.setIfInBounds_toArray, List.set_cons_zero, List.set_cons_succ]
    refine takeD 7 12 undef rfl rfl (by kernel_rfl) (by kernel_rfl) (by kernel_rfl) (fun _ _ _ h => h) (Or.inr ⟨by rfl, rfl⟩) (by assumption) ?_
    simp only [Act.put, List.setIfInBounds_toArray, List.set_cons_zero, List.set_cons_succ]
    refine takeD 8 13 undef rfl rfl (by kernel_rfl) (by kernel_rfl) (by kernel_rfl) (fun _ _ _ h => h) (Or.inr ⟨by rfl, rfl⟩) (by assumption) ?_
    simp only [Act.put, List.setIfInBounds_toArray, List.set_cons_zero, List.set_cons_succ]
    refine takeD 9 14 undef rfl rfl (by kernel_rfl) (by kernel_rfl) (by kernel_rfl) (fun _ _ _ h => h) (Or.inr ⟨by rfl, rfl⟩) (by assumption) ?_
    simp only [Act.put, List.setIfInBounds_toArray, List.set_cons_zero, List.set_cons_succ]
    refine takeD 10 15 undef rfl rfl (by kernel_rfl) (by kernel_rfl) (by kernel_rfl) (fun _ _ _ h => h) (Or.inr ⟨by rfl, rfl⟩) (by assumption) ?_
    simp only [Act.put, List.setIfInBounds_toArray, List.set_cons_zero, List.set_cons_succ]
    refine takeD 11 16 (.bool false) rfl rfl (by kernel_rfl) (by kernel_rfl) (by kernel_rfl) (fun _ _ _ h => h) (Or.inl ⟨by rfl, ?_⟩) (by assumption) ?_
    · intro w hSw
      go_simp
    simp only [Act.put, List.setIfInBounds_toArray, List.set_cons_zero, List.set_cons_succ]
    refine takeD 12 17 (.bool false) rfl rfl (by kernel_rfl) (by kernel_rfl) (by kernel_rfl) (fun _ _ _ h => h) (Or.inl ⟨by rfl, ?_⟩) (by assumption) ?_
    · intro w hSw
      go_simp
    simp only [Act.put, List.setIfInBounds_toArray, List.set_cons_zero, List.set_cons_succ]
    refine takeD 13 18 undef rfl rfl (by kernel_rfl) (by kernel_rfl) (by kernel_rfl) (fun _ _ _ h => h) (Or.inr ⟨by rfl, rfl⟩) (by assumption) ?_
    simp only [Act.put, List.setIfInBounds_toArray, List.set_cons_zero, List.set_cons_succ]
    refine takeD 14 19 undef rfl rfl (by kernel_rfl) (by kernel_rfl) (by kernel_rfl) (fun _ _ _ h => h) (Or.inr ⟨by rfl, rfl⟩) (by assumption) ?_
    simp only [Act.put, List.setIfInBounds_toArray, List.set_cons_zero, List.set_cons_succ]
    refine takeD 15 20 undef rfl rfl (by kernel_rfl) (by kernel_rfl) (by kernel_rfl) (fun _ _ _ h => h) (Or.inr ⟨by rfl, rfl⟩) (by assumption) ?_
    simp only [Act.put, List.setIfInBounds_toArray, List.set_cons_zero, List.set_cons_succ]
    refine takeD 16 21 undef rfl rfl (by kernel_rfl) (by kernel_rfl) (by kernel_rfl) (fun _ _ _ h => h) (Or.inr ⟨by rfl, rfl⟩) (by assumption) ?_
    simp only [Act.put, List.setIfInBounds_toArray, List.set_cons_zero, List.set_cons_succ]
    refine takeD 17 22 undef rfl rfl (by kernel_rfl) (by kernel_rfl) (by kernel_rfl) (fun _ _ _ h => h) (Or.inr ⟨by rfl, rfl⟩) (by assumption) ?_
    simp only [Act.put, List.setIfInBounds_toArray, List.set_cons_zero, List.set_cons_succ]
    refine takeD 18 23 (.bool false) rfl rfl (by kernel_rfl) (by kernel_rfl) (by kernel_rfl) (fun _ _ _ h => h) (Or.inl ⟨by rfl, ?_⟩) (by assumption) ?_
    · intro w hSw
      go_simp
    simp only [Act.put, List.setIfInBounds_toArray, List.set_cons_zero, List.set_cons_succ]
    refine takeD 19 4 (.bool false) rfl rfl (by kernel_rfl) (by kernel_rfl) (by kernel_rfl) (fun _ _ _ h => h) (Or.inl ⟨by rfl, ?_⟩) (by assumption) ?_
    · intro w hSw
      go_simp
    simp only [Act.put, List.setIfInBounds_toArray, List.set_cons_zero, List.set_cons_succ]
    refine wpAnyH_done (by kernel_rfl) ?_ _
    go_wp2
    go_ret
    exact ⟨rfl, HX.out.1.below⟩
  rw [sameO_yes q1] at hq
  by_cases q2 : m1 = m2
  case neg =>
    rw [sameO_no q2] at HE
    have HN : Hid (sameO (⟨n1, t1, l1, h1, m1, p1, k1⟩ : Ord) ⟨n2, t2, l2, h2, m2, p2, k2⟩ = false) := sameO_no fun e => q2 (by simp_all)
    rw [HN.out]
    clear HN q1 q2 HF
    go_enter Try.func27, Try.ntmps27
    go_wp2
    have x0 := HX.out.1.cell 0; have x1 := HX.out.1.cell 1; have x2 := HX.out.1.cell 2; have x3 := HX.out.1.cell 3; have x4 := HX.out.1.cell 4; have x5 := HX.out.1.cell 5; have x6 := HX.out.1.cell 6; have x7 := HX.out.1.cell 7; have x8 := HX.out.1.cell 8; have x9 := HX.out.1.cell 9; have y0 := HX.out.2.cell 0; have y1 := HX.out.2.cell 1; have y2 := HX.out.2.cell 2; have y3 := HX.out.2.cell 3; have y4 := HX.out.2.cell 4; have y5 := HX.out.2.cell 5; have y6 := HX.out.2.cell 6; have y7 := HX.out.2.cell 7; have y8 := HX.out.2.cell 8; have y9 := HX.out.2.cell 9
    replace HX := Lib.hid (HX.out.drew 1)
    refine wp_region_held_drew (S := fun w' => w'.cell? ⟨w.heap.size, 0, none⟩ = some (.string n1) ∧ w'.cell? ⟨w.heap.size, 1, none⟩ = some (.string t1) ∧ w'.cell? ⟨w.heap.size, 2, none⟩ = some (.int .i64 l1) ∧ w'.cell? ⟨w.heap.size, 3, none⟩ = some (.int .i64 h1) ∧ w'.cell? ⟨w.heap.size, 4, none⟩ = some (.slice o1 m1.length ca1) ∧ w'.cell? ⟨w.heap.size, 5, none⟩ = some (.int .i64 p1.up) ∧ w'.cell? ⟨w.heap.size, 6, none⟩ = some (.int .i64 p1.down) ∧ w'.cell? ⟨w.heap.size, 7, none⟩ = some (.int .i64 p1.ups) ∧ w'.cell? ⟨w.heap.size, 8, none⟩ = some (.int .i64 p1.downs) ∧ w'.cell? ⟨w.heap.size, 9, none⟩ = some (.slice o2 k1.length ca2) ∧ w'.cell? ⟨w.heap.size + 1, 0, none⟩ = some (.string n2) ∧ w'.cell? ⟨w.heap.size + 1, 1, none⟩ = some (.string t2) ∧ w'.cell? ⟨w.heap.size + 1, 2, none⟩ = some (.int .i64 l2) ∧ w'.cell? ⟨w.heap.size + 1, 3, none⟩ = some (.int .i64 h2) ∧ w'.cell? ⟨w.heap.size + 1, 4, none⟩ = some (.slice o3 m2.length ca3) ∧ w'.cell? ⟨w.heap.size + 1, 5, none⟩ = some (.int .i64 p2.up) ∧ w'.cell? ⟨w.heap.size + 1, 6, none⟩ = some (.int .i64 p2.down) ∧ w'.cell? ⟨w.heap.size + 1, 7, none⟩ = some (.int .i64 p2.ups) ∧ w'.cell? ⟨w.heap.size + 1, 8, none⟩ = some (.int .i64 p2.downs) ∧ w'.cell? ⟨w.heap.size + 1, 9, none⟩ = some (.slice o4 k2.length ca4)) (by kernel_rfl) ?_ (fun hHeld => ?_)
    · go_keep
    refine takeD 0 5 (.agg #[.string n1, .string t1, .int .i64 l1, .int .i64 h1, .slice o1 m1.length ca1, .int .i64 p1.up, .int .i64 p1.down, .int .i64 p1.ups, .int .i64 p1.downs, .slice o2 k1.length ca2]) rfl rfl (by kernel_rfl) (by kernel_rfl) (by kernel_rfl) (fun _ _ _ h => h) (Or.inl ⟨by rfl, ?_⟩) (by assumption) ?_
    · intro w hSw
      go_simp
    simp only [Act.put, List.setIfInBounds_toArray, List.set_cons_zero, List.set_cons_succ]
    refine takeD 2 7 (.agg #[.string n2, .string t2, .int .i64 l2, .int .i64 h2, .slice o3 m2.length ca3, .int .i64 p2.up, .int .i64 p2.down, .int .i64 p2.ups, .int .i64 p2.downs, .slice o4 k2.length ca4]) rfl rfl (by kernel_rfl) (by kernel_rfl) (by kernel_rfl) (fun _ _ _ h => h) (Or.inl ⟨by rfl, ?_⟩) (by assumption) ?_
    · intro w hSw
      go_simp
    simp only [Act.put, List.setIfInBounds_toArray, List.set_cons_zero, List.set_cons_succ]
    refine wpAnyH_ready (rs := [1]) (by kernel_rfl) (by simp) ?_
    refine AllReadyH.cons (o := { dst := some 6, op := Op.call { callee := Callee.value (Operand.func 42), args := #[Operand.tmp 5], argTypes := #[48] }, type := 66, pos := "l06_order.go:147", after := #[{ on := 0, ground := Ground.data }], guard := none }) rfl (fun K hK => ?_) AllReadyH.nil
    go_simp
    refine (impl_head _ _ _ _ _ _ _ _).mono ?_; rintro e w' ⟨rfl, hb⟩; replace HX := Lib.hid (HX.out.next hb); clear hb; clear x0 x1 x2 x3 x4 x5 x6 x7 x8 x9 y0 y1 y2 y3 y4 y5 y6 y7 y8 y9; have x0 := HX.out.1.cell 0; have x1 := HX.out.1.cell 1; have x2 := HX.out.1.cell 2; have x3 := HX.out.1.cell 3; have x4 := HX.out.1.cell 4; have x5 := HX.out.1.cell 5; have x6 := HX.out.1.cell 6; have x7 := HX.out.1.cell 7; have x8 := HX.out.1.cell 8; have x9 := HX.out.1.cell 9; have y0 := HX.out.2.cell 0; have y1 := HX.out.2.cell 1; have y2 := HX.out.2.cell 2; have y3 := HX.out.2.cell 3; have y4 := HX.out.2.cell 4; have y5 := HX.out.2.cell 5; have y6 := HX.out.2.cell 6; have y7 := HX.out.2.cell 7; have y8 := HX.out.2.cell 8; have y9 := HX.out.2.cell 9
    go_wp2_with fail
    refine hK.out _ _ ?_ (fun hHeld => ?_)
    · go_keep
    clear hK K
    refine wpAnyH_ready (rs := [3]) (by kernel_rfl) (by simp) ?_
    refine AllReadyH.cons (o := { dst := some 8, op := Op.call { callee := Callee.value (Operand.func 42), args := #[Operand.tmp 7], argTypes := #[48] }, type := 66, pos := "l06_order.go:147", after := #[{ on := 2, ground := Ground.data }, { on := 1, ground := Ground.chain }], guard := none }) rfl (fun K hK => ?_) AllReadyH.nil
    go_simp
    refine (impl_head _ _ _ _ _ _ _ _).mono ?_; rintro e w' ⟨rfl, hb⟩; replace HX := Lib.hid (HX.out.next hb); clear hb; clear x0 x1 x2 x3 x4 x5 x6 x7 x8 x9 y0 y1 y2 y3 y4 y5 y6 y7 y8 y9; have x0 := HX.out.1.cell 0; have x1 := HX.out.1.cell 1; have x2 := HX.out.1.cell 2; have x3 := HX.out.1.cell 3; have x4 := HX.out.1.cell 4; have x5 := HX.out.1.cell 5; have x6 := HX.out.1.cell 6; have x7 := HX.out.1.cell 7; have x8 := HX.out.1.cell 8; have x9 := HX.out.1.cell 9; have y0 := HX.out.2.cell 0; have y1 := HX.out.2.cell 1; have y2 := HX.out.2.cell 2; have y3 := HX.out.2.cell 3; have y4 := HX.out.2.cell 4; have y5 := HX.out.2.cell 5; have y6 := HX.out.2.cell 6; have y7 := HX.out.2.cell 7; have y8 := HX.out.2.cell 8; have y9 := HX.out.2.cell 9
    go_wp2_with fail
    refine hK.out _ _ ?_ (fun hHeld => ?_)
    · go_keep
    clear hK K
    refine takeD 4 9 (.bool true) rfl rfl (by kernel_rfl) (by kernel_rfl) (by kernel_rfl) (fun _ _ _ h => h) (Or.inl ⟨by rfl, ?_⟩) (by assumption) ?_
    · intro w hSw
      go_simp
    simp only [Act.put, List.setIfInBounds_toArray, List.set_cons_zero, List.set_cons_succ]
    refine takeD 5 10 (.bool true) rfl rfl (by kernel_rfl) (by kernel_rfl) (by kernel_rfl) (fun _ _ _ h => h) (Or.inl ⟨by rfl, ?_⟩) (by assumption) ?_
    · intro w hSw
      go_simp
    simp only [Act.put, List.setIfInBounds_toArray, List.set_cons_zero, List.set_cons_succ]
    refine takeD 6 11 (.pointer (some ⟨w.heap.size, 4, none⟩)) rfl rfl (by kernel_rfl) (by kernel_rfl) (by kernel_rfl) (fun _ _ _ h => h) (Or.inl ⟨by rfl, ?_⟩) (by assumption) ?_
    · intro w hSw
      go_simp
    simp only [Act.put, List.setIfInBounds_toArray, List.set_cons_zero, List.set_cons_succ]
    refine takeD 7 12 (.slice o1 m1.length ca1) rfl rfl (by kernel_rfl) (by kernel_rfl) (by kernel_rfl) (fun _ _ _ h => h) (Or.inl ⟨by rfl, ?_⟩) (by assumption) ?_
    · intro w hSw
      go_simp
    simp only [Act.put, List.setIfInBounds_toArray, List.set_cons_zero, List.set_cons_succ]
    refine takeD 8 13 (.pointer (some ⟨w.heap.size + 1, 4, none⟩)) rfl rfl (by kernel_rfl) (by kernel_rfl) (by kernel_rfl) (fun _ _ _ h => h) (Or.inl ⟨by rfl, ?_⟩) (by assumption) ?_
    · intro w hSw
      go_simp
    simp only [Act.put, List.setIfInBounds_toArray, List.set_cons_zero, List.set_cons_succ]
    refine takeD 9 14 (.slice o3 m2.length ca3) rfl rfl (by kernel_rfl) (by kernel_rfl) (by kernel_rfl) (fun _ _ _ h => h) (Or.inl ⟨by rfl, ?_⟩) (by assumption) ?_
    · intro w hSw
      go_simp
    simp only [Act.put, List.setIfInBounds_toArray, List.set_cons_zero, List.set_cons_succ]
    refine wpAnyH_ready (rs := [10]) (by kernel_rfl) (by simp) ?_
    refine AllReadyH.cons (o := { dst := some 15, op := Op.call { callee := Callee.value (Operand.func 43), args := #[Operand.tmp 12, Operand.tmp 14], argTypes := #[45, 45] }, type := 4, pos := "l06_order.go:147", after := #[{ on := 7, ground := Ground.data }, { on := 9, ground := Ground.data }, { on := 5, ground := Ground.chain }, { on := 5, ground := Ground.guard }], guard := some (5, true) }) rfl (fun K hK => ?_) AllReadyH.nil
    go_simp
    refine (HE.out _ HX.out.1.below).mono ?_; rintro e w' ⟨rfl, q, rfl⟩; replace HX := Lib.hid (HX.out.drew q)
    go_wp2_with fail
    refine hK.out _ _ ?_ (fun hHeld => ?_)
    · go_keep
    clear hK K
    refine takeD 11 16 (.bool false) rfl rfl (by kernel_rfl) (by kernel_rfl) (by kernel_rfl) (fun _ _ _ h => h) (Or.inl ⟨by rfl, ?_⟩) (by assumption) ?_
    · intro w hSw
      go_simp
    simp only [Act.put, List.setIfInBounds_toArray, List.set_cons_zero, List.set_cons_succ]
    refine takeD 12 17 (.bool false) rfl rfl (by kernel_rfl) (by kernel_rfl) (by kernel_rfl) (fun _ _ _ h => h) (Or.inl ⟨by rfl, ?_⟩) (by assumption) ?_
    · intro w hSw
      go_simp
    simp only [Act.put, List.setIfInBounds_toArray, List.set_cons_zero, List.set_cons_succ]
    refine takeD 13 18 undef rfl rfl (by kernel_rfl) (by kernel_rfl) (by kernel_rfl) (fun _ _ _ h => h) (Or.inr ⟨by rfl, rfl⟩) (by assumption) ?_
    simp only [Act.put, List.setIfInBounds_toArray, List.set_cons_zero, List.set_cons_succ]
    refine takeD 14 19 undef rfl rfl (by kernel_rfl) (by kernel_rfl) (by kernel_rfl) (fun _ _ _ h => h) (Or.inr ⟨by rfl, rfl⟩) (by assumption) ?_
    simp only [Act.put, List.setIfInBounds_toArray, List.set_cons_zero, List.set_cons_succ]
    refine takeD 15 20 undef rfl rfl (by kernel_rfl) (by kernel_rfl) (by kernel_rfl) (fun _ _ _ h => h) (Or.inr ⟨by rfl, rfl⟩) (by assumption) ?_
    simp only [Act.put, List.setIfInBounds_toArray, List.set_cons_zero, List.set_cons_succ]
    refine takeD 16 21 undef rfl rfl (by kernel_rfl) (by kernel_rfl) (by kernel_rfl) (fun _ _ _ h => h) (Or.inr ⟨by rfl, rfl⟩) (by assumption) ?_
    simp only [Act.put, List.setIfInBounds_toArray, List.set_cons_zero, List.set_cons_succ]
    refine takeD 17 22 undef rfl rfl (by kernel_rfl) (by kernel_rfl) (by kernel_rfl) (fun _ _ _ h => h) (Or.inr ⟨by rfl, rfl⟩) (by assumption) ?_
    simp only [Act.put, List.setIfInBounds_toArray, List.set_cons_zero, List.set_cons_succ]
    refine takeD 18 23 (.bool false) rfl rfl (by kernel_rfl) (by kernel_rfl) (by kernel_rfl) (fun _ _ _ h => h) (Or.inl ⟨by rfl, ?_⟩) (by assumption) ?_
    · intro w hSw
      go_simp
    simp only [Act.put, List.setIfInBounds_toArray, List.set_cons_zero, List.set_cons_succ]
    refine takeD 19 4 (.bool false) rfl rfl (by kernel_rfl) (by kernel_rfl) (by kernel_rfl) (fun _ _ _ h => h) (Or.inl ⟨by rfl, ?_⟩) (by assumption) ?_
    · intro w hSw
      go_simp
    simp only [Act.put, List.setIfInBounds_toArray, List.set_cons_zero, List.set_cons_succ]
    refine wpAnyH_done (by kernel_rfl) ?_ _
    go_wp2
    go_ret
    exact ⟨rfl, HX.out.1.below⟩
  rw [sameO_yes q2] at HE
  by_cases q3 : k1 = k2
  case neg =>
    rw [sameO_no q3] at HF
    have HN : Hid (sameO (⟨n1, t1, l1, h1, m1, p1, k1⟩ : Ord) ⟨n2, t2, l2, h2, m2, p2, k2⟩ = false) := sameO_no fun e => q3 (by simp_all)
    rw [HN.out]
    clear HN q1 q2 q3
    go_enter Try.func27, Try.ntmps27
    go_wp2
    have x0 := HX.out.1.cell 0; have x1 := HX.out.1.cell 1; have x2 := HX.out.1.cell 2; have x3 := HX.out.1.cell 3; have x4 := HX.out.1.cell 4; have x5 := HX.out.1.cell 5; have x6 := HX.out.1.cell 6; have x7 := HX.out.1.cell 7; have x8 := HX.out.1.cell 8; have x9 := HX.out.1.cell 9; have y0 := HX.out.2.cell 0; have y1 := HX.out.2.cell 1; have y2 := HX.out.2.cell 2; have y3 := HX.out.2.cell 3; have y4 := HX.out.2.cell 4; have y5 := HX.out.2.cell 5; have y6 := HX.out.2.cell 6; have y7 := HX.out.2.cell 7; have y8 := HX.out.2.cell 8; have y9 := HX.out.2.cell 9
    replace HX := Lib.hid (HX.out.drew 1)
    go_region_held3 (fun w' => w'.cell? ⟨w.heap.size, 0, none⟩ = some (.string n1) ∧ w'.cell? ⟨w.heap.size, 1, none⟩ = some (.string t1) ∧ w'.cell? ⟨w.heap.size, 2, none⟩ = some (.int .i64 l1) ∧ w'.cell? ⟨w.heap.size, 3, none⟩ = some (.int .i64 h1) ∧ w'.cell? ⟨w.heap.size, 4, none⟩ = some (.slice o1 m1.length ca1) ∧ w'.cell? ⟨w.heap.size, 5, none⟩ = some (.int .i64 p1.up) ∧ w'.cell? ⟨w.heap.size, 6, none⟩ = some (.int .i64 p1.down) ∧ w'.cell? ⟨w.heap.size, 7, none⟩ = some (.int .i64 p1.ups) ∧ w'.cell? ⟨w.heap.size, 8, none⟩ = some (.int .i64 p1.downs) ∧ w'.cell? ⟨w.heap.size, 9, none⟩ = some (.slice o2 k1.length ca2) ∧ w'.cell? ⟨w.heap.size + 1, 0, none⟩ = some (.string n2) ∧ w'.cell? ⟨w.heap.size + 1, 1, none⟩ = some (.string t2) ∧ w'.cell? ⟨w.heap.size + 1, 2, none⟩ = some (.int .i64 l2) ∧ w'.cell? ⟨w.heap.size + 1, 3, none⟩ = some (.int .i64 h2) ∧ w'.cell? ⟨w.heap.size + 1, 4, none⟩ = some (.slice o3 m2.length ca3) ∧ w'.cell? ⟨w.heap.size + 1, 5, none⟩ = some (.int .i64 p2.up) ∧ w'.cell? ⟨w.heap.size + 1, 6, none⟩ = some (.int .i64 p2.down) ∧ w'.cell? ⟨w.heap.size + 1, 7, none⟩ = some (.int .i64 p2.ups) ∧ w'.cell? ⟨w.heap.size + 1, 8, none⟩ = some (.int .i64 p2.downs) ∧ w'.cell? ⟨w.heap.size + 1, 9, none⟩ = some (.slice o4 k2.length ca4)) (go_keep)
      (first
        | (go_at_call 42; refine (impl_head _ _ _ _ _ _ _ _).mono ?_; rintro e w' ⟨rfl, hb⟩; replace HX := Lib.hid (HX.out.next hb); clear hb; clear x0 x1 x2 x3 x4 x5 x6 x7 x8 x9 y0 y1 y2 y3 y4 y5 y6 y7 y8 y9; have x0 := HX.out.1.cell 0; have x1 := HX.out.1.cell 1; have x2 := HX.out.1.cell 2; have x3 := HX.out.1.cell 3; have x4 := HX.out.1.cell 4; have x5 := HX.out.1.cell 5; have x6 := HX.out.1.cell 6; have x7 := HX.out.1.cell 7; have x8 := HX.out.1.cell 8; have x9 := HX.out.1.cell 9; have y0 := HX.out.2.cell 0; have y1 := HX.out.2.cell 1; have y2 := HX.out.2.cell 2; have y3 := HX.out.2.cell 3; have y4 := HX.out.2.cell 4; have y5 := HX.out.2.cell 5; have y6 := HX.out.2.cell 6; have y7 := HX.out.2.cell 7; have y8 := HX.out.2.cell 8; have y9 := HX.out.2.cell 9)
        | (go_at_call 43; refine (HE.out _ HX.out.1.below).mono ?_; rintro e w' ⟨rfl, q, rfl⟩; replace HX := Lib.hid (HX.out.drew q))
        | (go_at_call 44; refine (HF.out _ HX.out.1.below).mono ?_; rintro e w' ⟨rfl, q, rfl⟩; replace HX := Lib.hid (HX.out.drew q)))
    go_wp2
    go_ret
    exact ⟨rfl, by have := HX.out.1.below; rwa [drewO_drew] at this⟩
  rw [sameO_yes q3] at HF
  have HN : Hid (sameO (⟨n1, t1, l1, h1, m1, p1, k1⟩ : Ord) ⟨n2, t2, l2, h2, m2, p2, k2⟩ = true) := sameO_yes (by simp_all)
  rw [HN.out]
  clear HN q1 q2 q3
  go_enter Try.func27, Try.ntmps27
  go_wp2
  have x0 := HX.out.1.cell 0; have x1 := HX.out.1.cell 1; have x2 := HX.out.1.cell 2; have x3 := HX.out.1.cell 3; have x4 := HX.out.1.cell 4; have x5 := HX.out.1.cell 5; have x6 := HX.out.1.cell 6; have x7 := HX.out.1.cell 7; have x8 := HX.out.1.cell 8; have x9 := HX.out.1.cell 9; have y0 := HX.out.2.cell 0; have y1 := HX.out.2.cell 1; have y2 := HX.out.2.cell 2; have y3 := HX.out.2.cell 3; have y4 := HX.out.2.cell 4; have y5 := HX.out.2.cell 5; have y6 := HX.out.2.cell 6; have y7 := HX.out.2.cell 7; have y8 := HX.out.2.cell 8; have y9 := HX.out.2.cell 9
  replace HX := Lib.hid (HX.out.drew 1)
  go_region_held3 (fun w' => w'.cell? ⟨w.heap.size, 0, none⟩ = some (.string n1) ∧ w'.cell? ⟨w.heap.size, 1, none⟩ = some (.string t1) ∧ w'.cell? ⟨w.heap.size, 2, none⟩ = some (.int .i64 l1) ∧ w'.cell? ⟨w.heap.size, 3, none⟩ = some (.int .i64 h1) ∧ w'.cell? ⟨w.heap.size, 4, none⟩ = some (.slice o1 m1.length ca1) ∧ w'.cell? ⟨w.heap.size, 5, none⟩ = some (.int .i64 p1.up) ∧ w'.cell? ⟨w.heap.size, 6, none⟩ = some (.int .i64 p1.down) ∧ w'.cell? ⟨w.heap.size, 7, none⟩ = some (.int .i64 p1.ups) ∧ w'.cell? ⟨w.heap.size, 8, none⟩ = some (.int .i64 p1.downs) ∧ w'.cell? ⟨w.heap.size, 9, none⟩ = some (.slice o2 k1.length ca2) ∧ w'.cell? ⟨w.heap.size + 1, 0, none⟩ = some (.string n2) ∧ w'.cell? ⟨w.heap.size + 1, 1, none⟩ = some (.string t2) ∧ w'.cell? ⟨w.heap.size + 1, 2, none⟩ = some (.int .i64 l2) ∧ w'.cell? ⟨w.heap.size + 1, 3, none⟩ = some (.int .i64 h2) ∧ w'.cell? ⟨w.heap.size + 1, 4, none⟩ = some (.slice o3 m2.length ca3) ∧ w'.cell? ⟨w.heap.size + 1, 5, none⟩ = some (.int .i64 p2.up) ∧ w'.cell? ⟨w.heap.size + 1, 6, none⟩ = some (.int .i64 p2.down) ∧ w'.cell? ⟨w.heap.size + 1, 7, none⟩ = some (.int .i64 p2.ups) ∧ w'.cell? ⟨w.heap.size + 1, 8, none⟩ = some (.int .i64 p2.downs) ∧ w'.cell? ⟨w.heap.size + 1, 9, none⟩ = some (.slice o4 k2.length ca4)) (go_keep)
    (first
      | (go_at_call 42; refine (impl_head _ _ _ _ _ _ _ _).mono ?_; rintro e w' ⟨rfl, hb⟩; replace HX := Lib.hid (HX.out.next hb); clear hb; clear x0 x1 x2 x3 x4 x5 x6 x7 x8 x9 y0 y1 y2 y3 y4 y5 y6 y7 y8 y9; have x0 := HX.out.1.cell 0; have x1 := HX.out.1.cell 1; have x2 := HX.out.1.cell 2; have x3 := HX.out.1.cell 3; have x4 := HX.out.1.cell 4; have x5 := HX.out.1.cell 5; have x6 := HX.out.1.cell 6; have x7 := HX.out.1.cell 7; have x8 := HX.out.1.cell 8; have x9 := HX.out.1.cell 9; have y0 := HX.out.2.cell 0; have y1 := HX.out.2.cell 1; have y2 := HX.out.2.cell 2; have y3 := HX.out.2.cell 3; have y4 := HX.out.2.cell 4; have y5 := HX.out.2.cell 5; have y6 := HX.out.2.cell 6; have y7 := HX.out.2.cell 7; have y8 := HX.out.2.cell 8; have y9 := HX.out.2.cell 9)
      | (go_at_call 43; refine (HE.out _ HX.out.1.below).mono ?_; rintro e w' ⟨rfl, q, rfl⟩; replace HX := Lib.hid (HX.out.drew q))
      | (go_at_call 44; refine (HF.out _ HX.out.1.below).mono ?_; rintro e w' ⟨rfl, q, rfl⟩; replace HX := Lib.hid (HX.out.drew q)))
  go_wp2
  go_ret
  exact ⟨rfl, by have := HX.out.1.below; rwa [drewO_drew] at this⟩

end Go.Proofs.Ytjopjdidbkhmnaa
