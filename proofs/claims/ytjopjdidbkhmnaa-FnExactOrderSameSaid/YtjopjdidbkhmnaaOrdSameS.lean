/-
  What is proved: the model's OrderSame tells of two orders whether they are the same.
-/
import Derived.Test.YtjopjdidbkhmnaaOrdEq
import Derived.Test.YtjopjdidbkhmnaaMet
namespace Go.Proofs.Ytjopjdidbkhmnaa
open Go Go.RowKit

theorem ord_no {a b : Ord} (h : a.name ≠ b.name ∨ a.target ≠ b.target ∨ a.low ≠ b.low ∨ a.high ≠ b.high ∨ a.mets ≠ b.mets ∨ a.pace ≠ b.pace ∨ a.notes ≠ b.notes) : sameO a b = false :=
  sameO_no fun e => by subst e; simp at h

/-- Two blocks of two orders, and all that lay before. -/
def Two (w wr : World) (ca cb : Array Value) (t : TypeId) : Prop := Bx w wr w.heap.size ca t ∧ Bx w wr (w.heap.size + 1) cb t

theorem Two.start (w : World) (ca cb : Array Value) (t : TypeId) : Two w ((w.alloc (.cells ca t)).alloc (.cells cb t)) ca cb t :=
  ⟨(Bx.start w ca t).alloc _, by have := (Bx.start w ca t).add cb t; simpa using this⟩
theorem Two.next {w wr w1 : World} {ca cb : Array Value} {t : TypeId} (h : Two w wr ca cb t) (hb : Below wr.heap.size wr w1) : Two w w1 ca cb t := ⟨h.1.next hb, h.2.next hb⟩
theorem Two.drew {w wr : World} {ca cb : Array Value} {t : TypeId} (h : Two w wr ca cb t) (n : Nat) : Two w (wr.drewN n) ca cb t := ⟨h.1.drew n, h.2.drew n⟩


set_option maxRecDepth 100000 in
set_option maxHeartbeats 4000000 in
theorem spec_orderSame {a b : Ord} {mv1 nv1 mv2 nv2 : Value} {FM FN FM' FN' : List Nat} (w : World) (ha : OrdAt w a mv1 nv1 FM FN) (hb : OrdAt w b mv2 nv2 FM' FN') :
    Calls Try.prog 26 #[.agg #[.string a.name, .string a.target, .int .i64 a.low, .int .i64 a.high, mv1, .int .i64 a.pace.up, .int .i64 a.pace.down, .int .i64 a.pace.ups, .int .i64 a.pace.downs, nv1], .agg #[.string b.name, .string b.target, .int .i64 b.low, .int .i64 b.high, mv2, .int .i64 b.pace.up, .int .i64 b.pace.down, .int .i64 b.pace.ups, .int .i64 b.pace.downs, nv2]] w fun e w' => e = .returned (.bool (sameO a b)) ∧ Below w.heap.size w w' := by
  obtain ⟨o1, ca1, e1, hl1⟩ := RowAt.slice ha.mets
  obtain ⟨o2, ca2, e2, hl2⟩ := RowAt.slice ha.notes
  obtain ⟨o3, ca3, e3, hl3⟩ := RowAt.slice hb.mets
  obtain ⟨o4, ca4, e4, hl4⟩ := RowAt.slice hb.notes
  have HA := Lib.hid (And.intro ha.mets ha.notes)
  have HB := Lib.hid (And.intro hb.mets hb.notes)
  clear ha hb
  obtain ⟨n1, t1, l1, h1, m1, p1, k1⟩ := a
  obtain ⟨n2, t2, l2, h2, m2, p2, k2⟩ := b
  dsimp only at *
  subst e1 e2 e3 e4
  unfold maxLen at hl1 hl2 hl3 hl4
  have HX := Lib.hid (Two.start w #[.string n1, .string t1, .int .i64 l1, .int .i64 h1, .slice o1 m1.length ca1, .int .i64 p1.up, .int .i64 p1.down, .int .i64 p1.ups, .int .i64 p1.downs, .slice o2 k1.length ca2] #[.string n2, .string t2, .int .i64 l2, .int .i64 h2, .slice o3 m2.length ca3, .int .i64 p2.up, .int .i64 p2.down, .int .i64 p2.ups, .int .i64 p2.downs, .slice o4 k2.length ca4] 48)
  by_cases q1 : n1 = n2
  case neg =>
    rw [ord_no (.inl q1)]
    have q1' := bytes_ne q1
    clear q1
    go_enter Try.func26, Try.ntmps26
    go_wp2
    go_ret
    exact ⟨rfl, HX.out.1.below⟩
  subst q1
  by_cases q2 : t1 = t2
  case neg =>
    rw [ord_no (.inr (.inl q2))]
    have q2' := bytes_ne q2
    clear q2
    go_enter Try.func26, Try.ntmps26
    go_wp2
    go_ret
    exact ⟨rfl, HX.out.1.below⟩
  subst q2
  by_cases q3 : l1 = l2
  case neg =>
    rw [ord_no (.inr (.inr (.inl q3)))]
    go_enter Try.func26, Try.ntmps26
    go_wp2
    go_ret
    exact ⟨rfl, HX.out.1.below⟩
  subst q3
  by_cases q4 : h1 = h2
  case neg =>
    rw [ord_no (.inr (.inr (.inr (.inl q4))))]
    go_enter Try.func26, Try.ntmps26
    go_wp2
    go_ret
    exact ⟨rfl, HX.out.1.below⟩
  subst q4
  have hnp := neq_pac p1 p2
  have hgd := fun op a b' (x y : Array Value) w => run_eqGuard_agg (P := Try.prog) w op 33 a b' x y (by kernel_rfl)
  by_cases q5 : p1 = p2
  case neg =>
    rw [ord_no (.inr (.inr (.inr (.inr (.inr (.inl q5))))))]
    rw [sameO_no q5] at hnp
    clear q5
    go_enter Try.func26, Try.ntmps26
    go_wp2
    go_ret
    exact ⟨rfl, HX.out.1.below⟩
  rw [sameO_yes q5] at hnp
  have HP := Lib.hid q5
  clear q5
  by_cases q6 : m1.length = m2.length
  case neg =>
    rw [ord_no (.inr (.inr (.inr (.inr (.inl fun e => q6 (congrArg List.length e))))))]
    have q6' : ¬ (m1.length : Int) = m2.length := by omega
    clear q6
    go_enter Try.func26, Try.ntmps26
    go_wp2
    go_ret
    exact ⟨rfl, HX.out.1.below⟩
  rw [← q6] at HX ⊢
  have H6 := Lib.hid q6
  clear q6
  by_cases q7 : k1.length = k2.length
  case neg =>
    rw [ord_no (.inr (.inr (.inr (.inr (.inr (.inr fun e => q7 (congrArg List.length e)))))))]
    have q7' : ¬ (k1.length : Int) = k2.length := by omega
    clear q7
    go_enter Try.func26, Try.ntmps26
    go_wp2
    go_ret
    exact ⟨rfl, HX.out.1.below⟩
  rw [← q7] at HX ⊢
  have H7 := Lib.hid q7
  clear q7
  go_enter Try.func26, Try.ntmps26
  go_wp2
  clear hnp hgd
  go_loopw [5] (fun i wr => ∃ k : Nat, k ≤ m1.length ∧ i = .int .i64 k ∧ Hid (m1.take k = m2.take k) ∧ Hid (Two w wr #[.string n1, .string t1, .int .i64 l1, .int .i64 h1, .slice o1 m1.length ca1, .int .i64 p1.up, .int .i64 p1.down, .int .i64 p1.ups, .int .i64 p1.downs, .slice o2 k1.length ca2] #[.string n1, .string t1, .int .i64 l1, .int .i64 h1, .slice o3 m1.length ca3, .int .i64 p2.up, .int .i64 p2.down, .int .i64 p2.ups, .int .i64 p2.downs, .slice o4 k1.length ca4] 48)) (fun i _ => m1.length - (intOf i).toNat)
  case atStart => exact ⟨0, Nat.zero_le _, rfl, rfl, HX.out⟩
  case round =>
    obtain ⟨k, hk, rfl, hr, HX⟩ := hrel
    have hx := HX.out
    have x := hx.1.cell 4
    have y := hx.2.cell 4
    by_cases hlt : k < m1.length
    · have l2 : k < m2.length := by rw [← H6.out]; exact hlt
      obtain ⟨oa, cap, b, off, he, hlc, hcm, ho, -, hcell, -⟩ := HA.out.1
      obtain ⟨ob, cap', b', off', he', hlc', hcm', ho', -, hcell', -⟩ := HB.out.1
      injection he with he1 he2 he3
      injection he' with he1' he2' he3'
      subst he1 he3 he1' he3'
      have ho := ho (by omega)
      have ho' := ho' (by omega)
      subst ho ho'
      have c0 : wr.cell? ⟨b, off + k * 3, none⟩ = some (.string m1[k].name) := by
        have := (hcell k hlt).2 0 (by decide)
        rw [(hx.1.below).cell (by exact World.block_lt_of_cell? _ _ this)]; exact this
      have c1 : wr.cell? ⟨b, off + k * 3 + 1, none⟩ = some (.int .i64 m1[k].kind) := by
        have := (hcell k hlt).2 1 (by decide)
        rw [(hx.1.below).cell (by exact World.block_lt_of_cell? _ _ this)]; exact this
      have c2 : wr.cell? ⟨b, off + k * 3 + 2, none⟩ = some (.int .i64 m1[k].goal) := by
        have := (hcell k hlt).2 2 (by decide)
        rw [(hx.1.below).cell (by exact World.block_lt_of_cell? _ _ this)]; exact this
      have d0 : wr.cell? ⟨b', off' + k * 3, none⟩ = some (.string m2[k].name) := by
        have := (hcell' k l2).2 0 (by decide)
        rw [(hx.1.below).cell (by exact World.block_lt_of_cell? _ _ this)]; exact this
      have d1 : wr.cell? ⟨b', off' + k * 3 + 1, none⟩ = some (.int .i64 m2[k].kind) := by
        have := (hcell' k l2).2 1 (by decide)
        rw [(hx.1.below).cell (by exact World.block_lt_of_cell? _ _ this)]; exact this
      have d2 : wr.cell? ⟨b', off' + k * 3 + 2, none⟩ = some (.int .i64 m2[k].goal) := by
        have := (hcell' k l2).2 2 (by decide)
        rw [(hx.1.below).cell (by exact World.block_lt_of_cell? _ _ this)]; exact this
      have HX' := Lib.hid fun n => hx.drew n
      clear hx ho hcell hcell' HX
      unfold maxLen at hcm hcm'
      have hne := neq_met m1[k] m2[k]
      have hgd := fun op a b' (x y : Array Value) w => run_eqGuard_agg (P := Try.prog) w op 27 a b' x y (by kernel_rfl)
      by_cases he : m1[k] = m2[k]
      · have HR := Lib.hid (takeO_step hr.out hlt l2 he)
        rw [sameO_yes he] at hne
        clear he
        generalize hx : m1[k] = z at *
        generalize hy : m2[k] = z' at *
        clear hx hy
        go_wp2
        go_quiet (fail)
        go_wp2
        exact ⟨⟨k + 1, by omega, by go_num, HR.out, HX'.out _⟩, by simp [intOf]; omega⟩
      · have HR := Lib.hid (neO_at hlt l2 he)
        rw [sameO_no he] at hne
        clear he
        generalize hx : m1[k] = z at *
        generalize hy : m2[k] = z' at *
        clear hx hy
        go_wp2
        go_quiet (fail)
        go_wp2
        go_ret
        refine ⟨?_, (HX'.out _).1.below⟩
        rw [ord_no (.inr (.inr (.inr (.inr (.inl HR.out)))))]
        rfl
    · have HR5 := Lib.hid (takeO_end hr.out hlt H6.out)
      clear hx
      go_wp2
      go_loopw [6] (fun i wr => ∃ k : Nat, k ≤ k1.length ∧ i = .int .i64 k ∧ Hid (k1.take k = k2.take k) ∧ Hid (Two w wr #[.string n1, .string t1, .int .i64 l1, .int .i64 h1, .slice o1 m1.length ca1, .int .i64 p1.up, .int .i64 p1.down, .int .i64 p1.ups, .int .i64 p1.downs, .slice o2 k1.length ca2] #[.string n1, .string t1, .int .i64 l1, .int .i64 h1, .slice o3 m1.length ca3, .int .i64 p2.up, .int .i64 p2.down, .int .i64 p2.ups, .int .i64 p2.downs, .slice o4 k1.length ca4] 48)) (fun i _ => k1.length - (intOf i).toNat)
      case atStart => exact ⟨0, Nat.zero_le _, rfl, rfl, HX.out⟩
      case round =>
        obtain ⟨k, hk, rfl, hr, HX⟩ := hrel
        have hx := HX.out
        have x := hx.1.cell 9
        have y := hx.2.cell 9
        by_cases hlt : k < k1.length
        · have l2 : k < k2.length := by rw [← H7.out]; exact hlt
          obtain ⟨oa, cap, b, off, he, hlc, hcm, ho, -, hcell, -⟩ := HA.out.2
          obtain ⟨ob, cap', b', off', he', hlc', hcm', ho', -, hcell', -⟩ := HB.out.2
          injection he with he1 he2 he3
          injection he' with he1' he2' he3'
          subst he1 he3 he1' he3'
          have ho := ho (by omega)
          have ho' := ho' (by omega)
          subst ho ho'
          have c0 : wr.cell? ⟨b, off + k * 2, none⟩ = some (.string k1[k].key) := by
            have := (hcell k hlt).2 0 (by decide)
            rw [(hx.1.below).cell (by exact World.block_lt_of_cell? _ _ this)]; exact this
          have c1 : wr.cell? ⟨b, off + k * 2 + 1, none⟩ = some (.string k1[k].text) := by
            have := (hcell k hlt).2 1 (by decide)
            rw [(hx.1.below).cell (by exact World.block_lt_of_cell? _ _ this)]; exact this
          have d0 : wr.cell? ⟨b', off' + k * 2, none⟩ = some (.string k2[k].key) := by
            have := (hcell' k l2).2 0 (by decide)
            rw [(hx.1.below).cell (by exact World.block_lt_of_cell? _ _ this)]; exact this
          have d1 : wr.cell? ⟨b', off' + k * 2 + 1, none⟩ = some (.string k2[k].text) := by
            have := (hcell' k l2).2 1 (by decide)
            rw [(hx.1.below).cell (by exact World.block_lt_of_cell? _ _ this)]; exact this
          have HX' := Lib.hid fun n => hx.drew n
          clear hx ho hcell hcell' HX
          unfold maxLen at hcm hcm'
          have hne := neq_not k1[k] k2[k]
          have hgd := fun op a b' (x y : Array Value) w => run_eqGuard_agg (P := Try.prog) w op 64 a b' x y (by kernel_rfl)
          by_cases he : k1[k] = k2[k]
          · have HR := Lib.hid (takeO_step hr.out hlt l2 he)
            rw [sameO_yes he] at hne
            clear he
            generalize hx : k1[k] = z at *
            generalize hy : k2[k] = z' at *
            clear hx hy
            go_wp2
            go_quiet (fail)
            go_wp2
            exact ⟨⟨k + 1, by omega, by go_num, HR.out, HX'.out _⟩, by simp [intOf]; omega⟩
          · have HR := Lib.hid (neO_at hlt l2 he)
            rw [sameO_no he] at hne
            clear he
            generalize hx : k1[k] = z at *
            generalize hy : k2[k] = z' at *
            clear hx hy
            go_wp2
            go_quiet (fail)
            go_wp2
            go_ret
            refine ⟨?_, (HX'.out _).1.below⟩
            rw [ord_no (.inr (.inr (.inr (.inr (.inr (.inr HR.out))))))]
            rfl
        · have HR6 := Lib.hid (takeO_end hr.out hlt H7.out)
          clear hx
          go_wp2
          go_ret
          refine ⟨?_, HX.out.1.below⟩
          rw [sameO_yes (by rw [HR5.out, HR6.out, HP.out])]
          rfl
end Go.Proofs.Ytjopjdidbkhmnaa
