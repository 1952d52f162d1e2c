/-
  What is proved: the model's TreeSame tells whether two trees are the same.
-/
import Derived.Test.YthbphkakbjheeaaSameSH
namespace Go.Proofs.Ythbphkakbjheeaa
open Go Go.RowKit

set_option maxRecDepth 100000 in
set_option maxHeartbeats 1600000 in
theorem spec_same (T : RT) : SpecSameAt T := by
  induction T using RT.ind with
  | h k n s keys kids ih =>
    intro w kv dv F hl T' kv' dv' F' hl'
    obtain ⟨k', n', s', keys', kids'⟩ := T'
    obtain ⟨-, -, -, FK, FD, hK, hD, -⟩ := hl.outn
    obtain ⟨-, -, -, FK', FD', hK', hD', -⟩ := hl'.outn
    clear hl hl'
    obtain ⟨ko, kc, kb, kof, rfl, hkl, hkm, hko, -, hkc⟩ := hK
    obtain ⟨ko', kc', kb', kof', rfl, hkl', hkm', hko', -, hkc'⟩ := hK'
    obtain ⟨o, cap, b, off, FF, KV, DV, rfl, hlc, hcm, ho, -, hcell, hlies⟩ := hD
    obtain ⟨o', cap', b', off', FF', KV', DV', rfl, hlc', hcm', ho', -, hcell', hlies'⟩ := hD'
    have HK := Lib.hid (And.intro hko hkc)
    have HK' := Lib.hid (And.intro hko' hkc')
    have HD := Lib.hid (And.intro ho (And.intro hcell hlies))
    have HD' := Lib.hid (And.intro ho' (And.intro hcell' hlies'))
    clear hko hkc hko' hkc' ho hcell hlies ho' hcell' hlies'
    unfold maxLen at *
    show Calls Try.prog 33 #[.agg #[.int .i64 k, .int .i64 n, .string s, .slice ko keys.length kc, .slice o kids.length cap], .agg #[.int .i64 k', .int .i64 n', .string s', .slice ko' keys'.length kc', .slice o' kids'.length cap']] w _
    by_cases hh : k = k' ∧ n = n' ∧ s = s' ∧ keys.length = keys'.length ∧ kids.length = kids'.length
    · obtain ⟨e1, e2, e3, e4, e5⟩ := hh
      subst e1 e2 e3
      have HX := Lib.hid (Box2.start w (.int .i64 k) (.int .i64 n) (.string s) (.slice ko keys.length kc) (.slice o kids.length cap) (.int .i64 k) (.int .i64 n) (.string s) (.slice ko' keys.length kc') (.slice o' kids.length cap') 30 30)
      have E4 := Lib.hid e4
      have E5 := Lib.hid e5
      rw [← e4, ← e5]
      rw [← e5] at hlc'
      rw [← e4] at hkl'
      clear e4 e5
      go_enter Try.func33, Try.ntmps33
      go_wp2
      go_loopw [5] (fun i wr => ∃ q : Nat, q ≤ keys.length ∧ i = .int .i64 q ∧ Hid (keys.take q = keys'.take q) ∧ Hid (Box2 w wr (.int .i64 k) (.int .i64 n) (.string s) (.slice ko keys.length kc) (.slice o kids.length cap) (.int .i64 k) (.int .i64 n) (.string s) (.slice ko' keys.length kc') (.slice o' kids.length cap'))) (fun i _ => keys.length - (intOf i).toNat)
      case atStart => exact ⟨0, Nat.zero_le _, rfl, rfl, HX.out⟩
      case round =>
        obtain ⟨q, hq, rfl, hr, hx⟩ := hrel
        obtain ⟨hb, -, x0, x1, x2, x3, x4, y0, y1, y2, y3, y4⟩ := hx.out
        have HB := Lib.hid hb
        by_cases hlt : q < keys.length
        · have l2 : q < keys'.length := by rw [← E4.out]; exact hlt
          have c0 : wr.cell? ⟨kb, kof + q, none⟩ = some (.string keys[q]) := by
            have := (HK.out.2 q hlt).1
            rw [hb.cell (by exact World.block_lt_of_cell? _ _ this)]; exact this
          have c1 : wr.cell? ⟨kb', kof' + q, none⟩ = some (.string keys'[q]) := by
            have := (HK'.out.2 q l2).1
            rw [hb.cell (by exact World.block_lt_of_cell? _ _ this)]; exact this
          have ho := HK.out.1 (by omega)
          have ho' := HK'.out.1 (by omega)
          subst ho ho'
          clear hb
          by_cases he : keys[q] = keys'[q]
          · have HR := Lib.hid (take_step hr.out hlt l2 he)
            rw [he] at c0
            clear he
            generalize hx : keys'[q] = x at *
            clear hx
            go_wp2
            go_quiet (fail)
            go_wp2
            exact ⟨⟨q + 1, by omega, by go_num, HR.out, hx.out.next (below_drewN (Below.refl _ _) _)⟩, by simp [intOf]; omega⟩
          · have HR := Lib.hid (ne_at hlt l2 he)
            have he' := bytes_ne he
            generalize hx : keys[q] = x at *
            generalize hy : keys'[q] = y at *
            clear hx hy
            go_wp2
            go_quiet (fail)
            go_wp2
            go_ret
            refine ⟨?_, below_drewN HB.out _⟩
            rw [same_no (fun h => HR.out (by injection h))]
            rfl
        · have HR := Lib.hid (take_end hr.out hlt E4.out)
          clear hb
          go_wp2
          go_loopw [6] (fun i wr => ∃ q : Nat, q ≤ kids.length ∧ i = .int .i64 q ∧ Hid (kids.take q = kids'.take q) ∧ Hid (Box2 w wr (.int .i64 k) (.int .i64 n) (.string s) (.slice ko keys.length kc) (.slice o kids.length cap) (.int .i64 k) (.int .i64 n) (.string s) (.slice ko' keys.length kc') (.slice o' kids.length cap'))) (fun i _ => kids.length - (intOf i).toNat)
          case atStart => exact ⟨0, Nat.zero_le _, rfl, rfl, hx.out⟩
          case round =>
            clear hx x0 x1 x2 x3 x4 y0 y1 y2 y3 y4 HB
            obtain ⟨q, hq, rfl, hr, hx⟩ := hrel
            obtain ⟨hb, -, x0, x1, x2, x3, x4, y0, y1, y2, y3, y4⟩ := hx.out
            have HB := Lib.hid hb
            by_cases hlt : q < kids.length
            · have l2 : q < kids'.length := by rw [← E5.out]; exact hlt
              obtain ⟨c0, c1, c2, c3, c4⟩ := kid_cells (HD.out.2.1 q hlt) hb
              obtain ⟨g0, g1, g2, g3, g4⟩ := kid_cells (HD'.out.2.1 q l2) hb
              have ho := HD.out.1 (by omega)
              have ho' := HD'.out.1 (by omega)
              subst ho ho'
              have hih := Lib.hid (fun n => ih _ (List.getElem_mem hlt) (wr.drewN n) _ _ _ ((HD.out.2.2 q hlt).stay (below_drewN hb n) (Nat.le_refl _)) _ _ _ _ ((HD'.out.2.2 q l2).stay (below_drewN hb n) (Nat.le_refl _)))
              clear hb
              by_cases he : kids[q] = kids'[q]
              · have HR2 := Lib.hid (take_step hr.out hlt l2 he)
                rw [he] at c0 c1 c2
                rw [same_yes he, he] at hih
                clear he
                generalize kids'[q] = x at *
                go_wp2
                go_region_with (first | (go_at_call 33; refine (hih.out 1).mono ?_; rintro e w1 ⟨rfl, hb1⟩))
                all_goals go_wp2
                all_goals exact ⟨⟨q + 1, by omega, by go_num, HR2.out, (hx.out.next (below_drewN (Below.refl _ _) 1)).next hb1⟩, by simp [intOf]; omega⟩
              · have HR2 := Lib.hid (ne_at hlt l2 he)
                rw [same_no he] at hih
                clear he
                generalize kids[q] = x at *
                generalize kids'[q] = y at *
                go_wp2
                go_region_with (first | (go_at_call 33; refine (hih.out 1).mono ?_; rintro e w1 ⟨rfl, hb1⟩))
                all_goals go_wp2
                all_goals go_ret
                all_goals refine ⟨?_, (below_drewN HB.out 1).trans (hb1.mono (below_drewN HB.out 1).size)⟩
                all_goals rw [same_no (fun h => HR2.out (by injection h))]
                all_goals rfl
            · have HR2 := Lib.hid (take_end hr.out hlt E5.out)
              clear hb
              go_wp2
              go_ret
              refine ⟨?_, HB.out⟩
              rw [same_yes (by rw [HR.out, HR2.out])]
              rfl
    · rw [same_no (fun h => hh (by injection h with h1 h2 h3 h4 h5; exact ⟨h1, h2, h3, by rw [h4], by rw [h5]⟩))]
      exact spec_same_head w k n k' n' s s' ko o ko' o' _ _ _ _ _ _ _ _ hh
end Go.Proofs.Ythbphkakbjheeaa
