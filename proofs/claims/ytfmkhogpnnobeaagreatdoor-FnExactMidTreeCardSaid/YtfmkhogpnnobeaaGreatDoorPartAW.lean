/-
  What is proved: the program's Unset of a map answers the map without that Key, in memory of its own; no condition.; plain facts on texts that are laid one behind the other by append, and on strings.Join of them.; for any text the program's Quote answers as the model's Quote does: empty when it is not right; else its bytes between two marks, with a stroke ahead of a mark or a stroke.; the program's roomBehind tells how many of the nodes that there is room for are left behind a tree; its TreeOk whether a tree is right, not too deep and not too great.; for any tree the program's TreeOk answers as the model's TreeOk does, and the law returns true with its argument as it was; no condition.
-/
import Derived.Test.YtfmkhogpnnobeaaGreatDoorPartAV
import Derived.Test.YtfmkhogpnnobeaaGreatDoorPartAA
import Derived.Test.YtfmkhogpnnobeaaGreatDoorPartAP
import Derived.Test.YtfmkhogpnnobeaaGreatDoorShelf
import Derived.Laws.AppendOwn
import Derived.Laws.OwnMore
import Derived.Maps.AppendAt
import Derived.Deep.AppendLies
import Derived.Test.YtfmkhogpnnobeaaGreatDoorPartAO
import Derived.Test.YtfmkhogpnnobeaaGreatDoorPartAB
/- the program's Unset of a map answers the map without that Key, in memory of its own; no condition. -/
namespace Go.Proofs.YtfmkhogpnnobeaaGreatDoor
open Go Go.RowKit

theorem US.kid' {w wc wr w1 w2 w3 : World} {a b c d e : Value} {B : Nat} {k n : Int} {s : ByteArray} {ks : List ByteArray} {kids : List RT} {mk md : Nat} {kv dv : Value} {KV DV : Nat → Value} {FF : Nat → List Nat} (h : US w wc wr a b c d e B k n s ks kids mk md kv dv KV DV FF) {X : RT} (hX : kids[md]? = some X) (hb1 : Below wr.heap.size wr w1) {kvx dvx : Value} {F : List Nat} (hl : Lies w1 X kvx dvx F) (hf : Fresh wr w1 F) (hb2 : Below w1.heap.size w1 w2)
    {g cap : Nat} (hgrow : w2.grownBy w3 dv.ownBlock) (hown : w3.ownsRow wc.heap.size 32 5 (.slice (some ⟨g, 0, none⟩) (md + 1) cap) (md + 1) (rowsOf kids KV DV md ++ X.row kvx dvx)) (hat : dv.ownBlock = some g ∨ g = w2.heap.size) :
    US w wc (w3.setCell ⟨B, 4, none⟩ (.slice (some ⟨g, 0, none⟩) (md + 1) cap)) a b c d e B k n s ks kids mk (md + 1) kv (.slice (some ⟨g, 0, none⟩) (md + 1) cap) (fun i => if i = md then kvx else KV i) (fun i => if i = md then dvx else DV i) (fun i => if i = md then F else FF i) := by
  obtain ⟨hj, rfl⟩ := List.getElem?_eq_some_iff.1 hX
  exact h.kid hj hb1 hl hf hb2 hgrow hown hat

theorem clo_un (k key : ByteArray) (KB : Nat) (w : World) (hB : w.cell? ⟨KB, 0, none⟩ = some (.string key)) :
    Calls Tryz.prog 108 #[.string k, .pointer (some ⟨KB, 0, none⟩)] w fun e w' => e = .returned (.bool (decide (k = key))) ∧ w' = w := by
  by_cases h : k = key
  · subst h
    go_enter Tryz.func108, Tryz.ntmps108
    go_wp2
    go_ret
    exact ⟨ret_bool (by simp), rfl⟩
  · have hn := bytes_ne h
    go_enter Tryz.func108, Tryz.ntmps108
    go_wp2
    go_ret
    exact ⟨ret_bool (by simp [h]), rfl⟩

set_option maxRecDepth 100000 in
set_option maxHeartbeats 4000000 in
theorem impl_restOf (T : RT) (key : ByteArray) (hm : T.isMap) (w : World) (kv dv : Value) (F : List Nat) (hl : Lies w T kv dv F) (hT : T.sz ≤ 1048576) (KB : Nat) (hKB : w.cell? ⟨KB, 0, none⟩ = some (.string key)) :
    Calls Tryz.prog 107 #[T.val kv dv, .func (.func 108) #[] #[.pointer (some ⟨KB, 0, none⟩)]] w fun e w' => ∃ kv' dv' F', e = .returned (.agg #[.int .i64 T.k, .int .i64 T.n, .string T.s, kv', dv']) ∧ Lies w' (unT T key) kv' dv' F' ∧ Fresh w w' F' ∧ Below w.heap.size w w' := by
  cases T with
  | node k n s keys kids =>
    obtain ⟨hk, hn, hs, FK, FD, hK, hD, -⟩ := hl.outn
    clear hl
    have hsz := hT
    rw [RT.sz] at hsz
    have h5 : k = 5 := hm.1
    have hlen : keys.length = kids.length := hm.2
    subst h5
    have HX := Lib.hid (CBox.start w 32 (.int .i64 5) (.int .i64 n) (.string s) kv dv)
    have HFit : Hid (Fit 5 ∧ Fit n ∧ s.size ≤ maxLen) := ⟨hk, hn, hs⟩
    obtain ⟨ko, kc, kb, kof, rfl, hlc, hcm, ho, -, hcell, -⟩ := hK
    obtain ⟨o2, q2, b, off, FF, KV, DV, rfl, hlc2, hcm2, ho2, -, hcell2, hlies2, -⟩ := hD
    have HC := Lib.hid hcell
    have HO := Lib.hid ho
    have HC2 := Lib.hid hcell2
    have HO2 := Lib.hid ho2
    have HL2 := Lib.hid hlies2
    have HLen := Lib.hid hlen
    obtain ⟨i0, hi0, hz0, hz1, hz2⟩ := info_parts info_node
    obtain ⟨i1, hi1, hy0, hy1, hy2⟩ := info_parts info_string
    have HCl := Lib.hid (fun (wr : World) (hb : Below w.heap.size w wr) (x : ByteArray) => clo_un x key KB wr ((hb.cell (World.block_lt_of_cell? _ _ hKB)).trans hKB))
    have hKl : KB < w.heap.size := World.block_lt_of_cell? _ _ hKB
    clear hcell ho hcell2 ho2 hlies2 hm hT hlen
    unfold maxLen at hcm hcm2
    show Calls Tryz.prog 107 #[.agg #[.int .i64 5, .int .i64 n, .string s, .slice ko keys.length kc, .slice o2 kids.length q2], .func (.func 108) #[] #[.pointer (some ⟨KB, 0, none⟩)]] w fun e w' => ∃ kv' dv' F', e = .returned (.agg #[.int .i64 5, .int .i64 n, .string s, kv', dv']) ∧ Lies w' (.node 5 n s (unK keys kids key) (unD keys kids key)) kv' dv' F' ∧ Fresh w w' F' ∧ Below w.heap.size w w'
    go_enter Tryz.func107, Tryz.ntmps107
    obtain ⟨x0, x1, x2, x3, x4, -⟩ := five HX.out.box
    have y3 : ∀ ob, (World.alloc ((w.alloc (.cells #[.int .i64 5, .int .i64 n, .string s, .slice ko keys.length kc, .slice o2 kids.length q2] 32)).alloc (.cells #[.int .i64 0, .int .i64 0, .string ⟨#[]⟩, .slice none 0 0, .slice none 0 0] 32)) ob).cell? ⟨w.heap.size, 3, none⟩ = some (.slice ko keys.length kc) := fun ob => (World.cell?_alloc_lt _ ob ⟨w.heap.size, 3, none⟩ (by show w.heap.size < _; have := HX.out.size; omega)).trans x3
    go_wp2
    have HS := Lib.hid (US.start HX.out 5 n s (unK keys kids key) (unD keys kids key))
    have HKs : Hid (∀ x ∈ unK keys kids key, x.size ≤ maxLen) := fun x hx => by
      obtain ⟨i, hi, rfl⟩ := List.getElem_of_mem (un_mem_k hx)
      exact (HC.out i hi).2
    clear x0 x1 x2 x3 x4 y3
    have hBs : w.heap.size + 1 + 1 = ((w.alloc (.cells #[.int .i64 5, .int .i64 n, .string s, .slice ko keys.length kc, .slice o2 kids.length q2] 32)).alloc (.cells #[.int .i64 0, .int .i64 0, .string ⟨#[]⟩, .slice none 0 0, .slice none 0 0] 32)).heap.size := by simp
    generalize hw1 : ((w.alloc (.cells #[.int .i64 5, .int .i64 n, .string s, .slice ko keys.length kc, .slice o2 kids.length q2] 32)).alloc (.cells #[.int .i64 0, .int .i64 0, .string ⟨#[]⟩, .slice none 0 0, .slice none 0 0] 32)) = w1 at *
    clear HX
    rw [hBs]
    clear hBs hw1
    generalize w1.alloc (.cells #[.int .i64 5, .int .i64 n, .string s, .slice none 0 0, .slice none 0 0] 32) = wc at *
    generalize w1.heap.size = B at *
    clear w1
    have hkl : keys.length ≤ 1048576 := by have := (keys_le (.node 5 n s keys kids)).1; simp only [RT.keys, RT.sz] at this; omega
    have HSzA := Lib.hid hsz
    clear hsz
    go_loopw [18] (fun i wr => ∃ (j : Nat) (kv dv : Value) (KV' DV' : Nat → Value) (FF' : Nat → List Nat), j ≤ keys.length ∧ i = .int .i64 j ∧ Hid (US w wc wr (.int .i64 5) (.int .i64 n) (.string s) (.slice ko keys.length kc) (.slice o2 kids.length q2) B 5 n s (unK keys kids key) (unD keys kids key) (unN keys kids key j) (unN keys kids key j) kv dv KV' DV' FF')) (fun i _ => keys.length - (intOf i).toNat)
    case atStart => exact ⟨0, _, _, _, _, _, Nat.zero_le _, rfl, by rw [unN_zero]; exact HS.out⟩
    case round =>
      obtain ⟨j, kv, dv, KV', DV', FF', hj, rfl, hr⟩ := hrel
      by_cases hlt : j < keys.length
      · have hbel := hr.out.cbox.below
        have c0 : wr.cell? ⟨kb, kof + j, none⟩ = some (.string keys[j]) := (hbel.cell (by exact World.block_lt_of_cell? _ _ (HC.out j hlt).1)).trans (HC.out j hlt).1
        have ho := HO.out (by omega)
        subst ho
        by_cases he : keys[j] = key
        · have HN : Hid (unN keys kids key (j + 1) = unN keys kids key j) := unN_no HLen.out hlt he
          rw [he] at c0
          have HBel := Lib.hid hbel
          clear he hbel
          go_wp2_with (first
            | (go_at_call 108; refine (HCl.out _ HBel.out key).mono ?_; rintro e w2 ⟨rfl, e2⟩; replace e2 := e2.symm; subst e2; rw [show decide (key = key) = true by simp])
            | fail)
          exact ⟨⟨j + 1, _, _, _, _, _, by omega, by go_num, by rw [HN.out]; exact hr.out⟩, by simp [intOf]; omega⟩
        · have hlt2 : j < kids.length := by have := HLen.out; omega
          have hne := bytes_ne he
          have he' := he
          obtain ⟨hy1', hy2', hy3'⟩ := unN_yes HLen.out hlt hlt2 he
          have HN := Lib.hid hy1'
          have hmj := unN_le (keys := keys) (kids := kids) (key := key) j
          have hmd : unN keys kids key j < (unD keys kids key).length := (List.getElem?_eq_some_iff.1 hy3').1
          have HKx := Lib.hid (fun (wr' w3 : World) (kv dv : Value) (KV' DV' : Nat → Value) (FF' : Nat → List Nat) (g cap : Nat) (h : US w wc wr' (.int .i64 5) (.int .i64 n) (.string s) (.slice (some ⟨kb, kof, none⟩) keys.length kc) (.slice o2 kids.length q2) B 5 n s (unK keys kids key) (unD keys kids key) (unN keys kids key j) (unN keys kids key j) kv dv KV' DV' FF') => h.key (w3 := w3) (g := g) (cap := cap) (Nat.le_of_lt hmd) hy2')
          have HKd := Lib.hid (fun (wr' w1 w2 w3 : World) (kv dv : Value) (KV' DV' : Nat → Value) (FF' : Nat → List Nat) (kvx dvx : Value) (F : List Nat) (g cap : Nat) (h : US w wc wr' (.int .i64 5) (.int .i64 n) (.string s) (.slice (some ⟨kb, kof, none⟩) keys.length kc) (.slice o2 kids.length q2) B 5 n s (unK keys kids key) (unD keys kids key) (unN keys kids key j + 1) (unN keys kids key j) kv dv KV' DV' FF') => h.kid' (w1 := w1) (w2 := w2) (w3 := w3) (kvx := kvx) (dvx := dvx) (F := F) (g := g) (cap := cap) hy3')
          have HNx := Lib.hid (fun (wr' w1 : World) (mk : Nat) (kv dv : Value) (KV' DV' : Nat → Value) (FF' : Nat → List Nat) (h : US w wc wr' (.int .i64 5) (.int .i64 n) (.string s) (.slice (some ⟨kb, kof, none⟩) keys.length kc) (.slice o2 kids.length q2) B 5 n s (unK keys kids key) (unD keys kids key) mk (unN keys kids key j) kv dv KV' DV' FF') => h.next (w1 := w1) (Nat.le_of_lt hmd))
          have HI : Hid (∀ w1 : World, Below w.heap.size w w1 → Calls Tryz.prog 104 #[.agg #[.int .i64 kids[j].k, .int .i64 kids[j].n, .string kids[j].s, KV j, DV j]] w1 fun e w' => ∃ u, e = .returned u ∧ ∃ kv' dv' F', u = .agg #[.int .i64 kids[j].k, .int .i64 kids[j].n, .string kids[j].s, kv', dv'] ∧ Lies w' kids[j] kv' dv' F' ∧ Fresh w1 w' F' ∧ Below w1.heap.size w1 w') := fun w1 hb1 => by
            refine (copy_node _ w1 _ _ _ ((HL2.out j hlt2).stay hb1 (Nat.le_refl _)) (Nat.le_trans (sz_take kids (List.getElem_mem hlt2)) (by have := HSzA.out; omega))).mono ?_
            rintro e w' ⟨kv', dv', F', rfl, g1, g2, g3, -⟩
            exact ⟨_, rfl, kv', dv', F', rfl, g1, g2, g3⟩
          have HCs := Lib.hid (fun (wx : World) (hb : Below w.heap.size w wx) => kid_cells (HC2.out j hlt2) hb)
          have ho2 := HO2.out (by omega)
          subst ho2
          obtain ⟨⟨os1, qs1, es1⟩, ⟨os2, qs2, es2⟩⟩ := (HL2.out j hlt2).slices
          clear he hy1' hy2' hy3' hne
          have HDc : Hid (decide (keys[j] = key) = false) := Lib.hid (by simpa using he')
          clear he'
          generalize unN keys kids key j = m at *
          generalize keys[j] = x at *
          generalize kids[j] = X at *
          generalize KV j = v1 at *
          generalize DV j = v2 at *
          subst es1 es2
          obtain ⟨ok_, ck, rfl⟩ := owns_form hr.out.keys
          obtain ⟨od, cd, rfl⟩ := owns_form hr.out.laid.own
          obtain ⟨y0, y1, y2, y3, y4, y5⟩ := five hr.out.out
          have HW : Hid (wc.heap.size ≤ wr.heap.size ∧ B < wc.heap.size ∧ w.heap.size < wr.heap.size) := ⟨hr.out.laid.size, hr.out.blt, by have := hr.out.cbox.size; omega⟩
          have hB := (Below.refl wr.heap.size wr).alloc (Nat.le_refl _) (.cells #[.string x] 9)
          have hR := Lib.hid (HNx.out _ _ _ _ _ _ _ _ hr.out hB)
          have HKO := Lib.hid (owns_below hr.out.keys hB)
          have HBel := Lib.hid hbel
          clear hB hbel
          go_wp2_with (first
            | (go_at_call 108; refine (HCl.out _ HBel.out x).mono ?_; rintro e w2 ⟨rfl, e2⟩; replace e2 := e2.symm; subst e2; rw [HDc.out])
            | (at_builtin; refine wpList_append_lies _ rfl (.tmp 28) (.tmp 30) 29 rfl wc.heap.size 9 i1 _ 1 16 Tryz.underlying29 hi1 hy0 hy1 hy2 rfl (by decide) (.slice ok_ m ck) m _ rfl HKO.out ⟨wr.heap.size, 0, none⟩ 1 1 [.string x] rfl rfl (World.news_of_block (cs := #[.string x]) (t := 9) (fr := (0, 0)) (heap_last wr _)) (by simp [Value.oneCell']) (by omega) (by unfold maxLen; omega) (by omega) (by have := HW.out; simp; omega) (wr.heap.size + 1) (by simp) ?_
               intro g cap' w3 hown3 hgrow hat hltg
               have hA := HKx.out _ w3 _ _ _ _ _ g cap' hR.out hgrow hown3 (by simpa using hat)
               have HA := Lib.hid hA
               have hne' : ∀ b', (Value.slice ok_ m ck).ownBlock = some b' → wc.heap.size ≤ b' := fun b' e => (owns_blk hr.out.keys e).1
               have hout3 : w3.heap[B]? = _ := (hgrow.block _ (by have := HW.out; simp; omega) (fun e => by have := hne' _ e.symm; have := HW.out; omega)).trans hR.out.out
               have k1 := cell_of hout3 3
               have k2 : w3.frozen? ⟨B, 3, none⟩ = false := by simp [World.frozen?, hout3]
               simp only [List.getElem?_toArray, List.getElem?_cons_zero, List.getElem?_cons_succ] at k1
               clear hown3 hgrow hat hltg hA hne' hout3)
            | fail)
          clear k1 k2 y0 y1 y2 y3 y4 y5 hR HKO HKx HW
          generalize w3.setCell ⟨B, 3, none⟩ (.slice (some ⟨g, 0, none⟩) (m + 1) cap') = wA at *
          clear w3 hr c0
          obtain ⟨x0, x1, x2, x3, x4, -⟩ := five HA.out.cbox.box
          obtain ⟨y0, y1, y2, y3, y4, y5⟩ := five HA.out.out
          obtain ⟨c0, c1, c2, c3, c4⟩ := HCs.out wA HA.out.cbox.below
          have HBl : Hid (B < wA.heap.size ∧ wc.heap.size ≤ wA.heap.size ∧ B < wc.heap.size) := ⟨by have := HA.out.laid.size; have := HA.out.blt; omega, HA.out.laid.size, HA.out.blt⟩
          have hj0 : (0 : Int) ≤ (j : Int) := by omega
          have hj1 : (j : Int) < (kids.length : Int) := by omega
          clear x0 x1 x2 x3 y0 y1 y2 y3
          go_wp2_with fail
          go_region_law (first
            | (refine step_calls (by rfl) 104 _ _ (by rfl) _ (by simp [Act.eval]) (by intros; simp [go_sem]) (fun _ _ => rfl) (HI.out _ (below_drewN HA.out.cbox.below 1)) ?_
               rintro u w1 ⟨kv1, dv1, F1, rfl, hl1, hf1, hb1⟩
               obtain ⟨⟨o3, q3, rfl⟩, ⟨o4, q4, rfl⟩⟩ := hl1.slices
               have hb01 := (below_drewN (Below.refl wA.heap.size wA) 1).trans (hb1.mono (Nat.le_refl _))
               have m1 : w1.cell? ⟨B, 4, none⟩ = _ := (hb01.cell (by exact HBl.out.1)).trans y4
               have m2 : ∀ ob, (w1.alloc ob).cell? ⟨B, 4, none⟩ = _ := fun ob => (World.cell?_alloc_lt w1 ob ⟨B, 4, none⟩ (Nat.lt_of_lt_of_le HBl.out.1 hb01.size)).trans m1
               have H1 := Lib.hid (And.intro hb01 (And.intro hl1 (hf1.earlier (w := wA) (Nat.le_refl _))))
               clear hl1 hf1 hb1 hb01)
            | (refine step_append_lies _ (by rfl) _ _ _ (by rfl) wc.heap.size 32 i0 _ 5 80 Tryz.underlying30 hi0 hz0 hz1 hz2 rfl (by decide) (.slice od m cd) m (rowsOf (unD keys kids key) KV' DV' m) (by rfl) (owns_below (owns_below HA.out.laid.own H1.out.1) ((Below.refl _ w1).alloc (Nat.le_refl _) _)) ⟨w1.heap.size, 0, none⟩ 1 1 [.int .i64 X.k, .int .i64 X.n, .string X.s, .slice o3 X.keys.length q3, .slice o4 X.kids.length q4] (by rfl) (by rfl) (World.news_of_block (cs := #[.int .i64 X.k, .int .i64 X.n, .string X.s, .slice o3 X.keys.length q3, .slice o4 X.kids.length q4]) (t := 32) (fr := (0, 0)) (heap_last w1 _)) (by simp [Value.oneCell']) (by omega) (by unfold maxLen; omega) (by omega) (by have := HBl.out; have := H1.out.1.size; simp; omega) _ rfl ?_
               intro g2 cap2 w3 hown3 hgrow3 hat3 hlt3
               have hx3 := HKd.out wA w1 _ w3 _ _ _ _ _ _ _ _ g2 cap2 HA.out H1.out.1 H1.out.2.1 H1.out.2.2 ((Below.refl _ w1).alloc (Nat.le_refl _) _) hgrow3 hown3 hat3
               have hBf := hgrow3.block B (by have := H1.out.1.size; have := HBl.out.1; simp; omega) (fun e => by have := (HA.out.laid.ownlt B e.symm).1; have := HBl.out.2.2; omega)
               have k1 : w3.cell? ⟨B, 4, none⟩ = _ := (World.cell?_of_block (a := ⟨B, 4, none⟩) hBf).trans (m2 _)
               have k2 : w3.frozen? ⟨B, 4, none⟩ = false := (World.frozen?_of_block (a := ⟨B, 4, none⟩) hBf).trans (by rw [((Below.refl _ w1).alloc (Nat.le_refl _) _).frozen (by have := H1.out.1.size; have := HBl.out.1; show B < _; omega), H1.out.1.frozen (by exact HBl.out.1)]; exact y5 4)
               have H3 := Lib.hid hx3
               clear hown3 hgrow3 hat3 hlt3 hx3 hBf)
            | fail)
          all_goals go_wp2
          all_goals exact ⟨⟨j + 1, _, _, _, _, _, by omega, by go_num, by rw [HN.out]; exact H3.out⟩, by simp [intOf]; omega⟩
      · have e : j = keys.length := by omega
        subst e
        have e1 := unN_end (keys := keys) (kids := kids) (key := key) HLen.out
        have h := hr.out
        rw [e1] at h
        have h' : US w wc wr (.int .i64 5) (.int .i64 n) (.string s) (.slice ko keys.length kc) (.slice o2 kids.length q2) B 5 n s (unK keys kids key) (unD keys kids key) (unK keys kids key).length (unD keys kids key).length kv dv KV' DV' FF' := by rw [unK_length, unD_length]; exact h
        have HD := Lib.hid (h'.done HFit.out HKs.out)
        clear h h'
        obtain ⟨ok_, ck, rfl⟩ := owns_form hr.out.keys
        obtain ⟨od, cd, rfl⟩ := owns_form hr.out.laid.own
        clear e1
        generalize unN keys kids key keys.length = m at *
        obtain ⟨y0, y1, y2, y3, y4, -⟩ := five hr.out.out
        obtain ⟨z0, z1, z2, z3, z4, z5⟩ := five hr.out.cbox.res
        go_wp2
        obtain ⟨F', hfin⟩ := HD.out
        refine bodyPost_ret (ret_node Tryz.results107 rfl hfin.1) rfl ⟨_, _, rfl, _, hfin.2⟩

set_option maxRecDepth 100000 in
set_option maxHeartbeats 4000000 in
theorem impl_unset (T : RT) (key : ByteArray) (hm : T.isMap) (w : World) (kv dv : Value) (F : List Nat) (hl : Lies w T kv dv F) (hT : T.sz ≤ 1048576) :
    Calls Tryz.prog 72 #[T.val kv dv, .string key] w fun e w' => ∃ kv' dv' F', e = .returned (.agg #[.int .i64 T.k, .int .i64 T.n, .string T.s, kv', dv']) ∧ Lies w' (unT T key) kv' dv' F' ∧ Fresh w w' F' ∧ Below w.heap.size w w' := by
  have HDec : Hid ((decide (T.k = 5) && decide (T.keys.length = T.kids.length)) = true) := Lib.hid (by simp [hm.1, hm.2])
  have HR := Lib.hid fun (wr : World) (hb : Below w.heap.size w wr) (KB : Nat) (hKB : wr.cell? ⟨KB, 0, none⟩ = some (.string key)) => impl_restOf T key hm wr kv dv F (hl.stay hb (Nat.le_refl _)) hT KB hKB
  obtain ⟨⟨o1, q1, rfl⟩, ⟨o2, q2, rfl⟩⟩ := hl.slices
  clear hl hT
  show Calls Tryz.prog 72 #[.agg #[.int .i64 T.k, .int .i64 T.n, .string T.s, .slice o1 T.keys.length q1, .slice o2 T.kids.length q2], .string key] w _
  have HZ := Lib.hid (zero_blocks w (.cells #[.int .i64 T.k, .int .i64 T.n, .string T.s, .slice o1 T.keys.length q1, .slice o2 T.kids.length q2] 32) (.cells #[.string key] 9) (.cells #[.int .i64 0, .int .i64 0, .string ⟨#[]⟩, .slice none 0 0, .slice none 0 0] 32))
  go_enter Tryz.func72, Tryz.ntmps72
  obtain ⟨x0, x1, x2, x3, x4, -⟩ := five HZ.out.1
  go_wp2_with fail
  refine (impl_isMap _ _ _ _ _ _ _ _ _ _).mono ?_
  rintro e w1 ⟨rfl, hb1⟩
  rw [HDec.out]
  obtain ⟨g1, g2, g3, g4, g5⟩ := HZ.out
  have H1 : Hid (w1.heap[w.heap.size]? = _ ∧ w1.heap[w.heap.size + 1]? = _ ∧ w1.heap[w.heap.size + 1 + 1]? = _ ∧ Below w.heap.size w w1 ∧ w.heap.size + 3 ≤ w1.heap.size) :=
    ⟨(hb1.block _ (by omega)).trans g1, (hb1.block _ (by omega)).trans g2, (hb1.block _ (by omega)).trans g3, g4.trans (hb1.mono g4.size), by have := hb1.size; omega⟩
  clear g1 g2 g3 g4 g5 hb1 HZ x0 x1 x2 x3 x4
  obtain ⟨x0, x1, x2, x3, x4, -⟩ := five H1.out.1
  have HRw := Lib.hid (HR.out w1 H1.out.2.2.2.1 (w.heap.size + 1) ((cell_of H1.out.2.1 0).trans rfl))
  go_wp2_with fail
  refine HRw.out.mono ?_
  rintro e w2 ⟨kv2, dv2, F2, rfl, hl2, hf2, hb2⟩
  obtain ⟨⟨o3, q3, e3⟩, ⟨o4, q4, e4⟩⟩ := hl2.slices
  subst e3 e4
  have hres := (hb2.block _ (by have := H1.out.2.2.2.2; omega)).trans H1.out.2.2.1
  obtain ⟨z0, z1, z2, z3, z4, z5⟩ := five hres
  have hfar : ∀ y ∈ F2, w.heap.size + 3 ≤ y := fun y hy => Nat.le_trans H1.out.2.2.2.2 (hf2.old y hy)
  have hb02 := H1.out.2.2.2.1.trans (hb2.mono (by have := H1.out.2.2.2.2; omega))
  have keep : ∀ y ∈ F2, (set5 w2 (w.heap.size + 1 + 1) 0 (.int .i64 T.k) (.int .i64 T.n) (.string T.s) (.slice o3 (unT T key).keys.length q3) (.slice o4 (unT T key).kids.length q4)).heap[y]? = w2.heap[y]? := fun y hy => set5_other _ _ _ _ _ _ _ _ _ (by have := hfar y hy; omega)
  have HE := Lib.hid (And.intro (set5_end hres (.int .i64 T.k) (.int .i64 T.n) (.string T.s) (.slice o3 (unT T key).keys.length q3) (.slice o4 (unT T key).kids.length q4)) (And.intro (hl2.carry keep) (And.intro (show Fresh w _ F2 from ((hf2.carry keep).earlier (by have := H1.out.2.2.2.2; omega))) (set5_below hb02 (b := w.heap.size + 1 + 1) (by omega) 0 (.int .i64 T.k) (.int .i64 T.n) (.string T.s) (.slice o3 (unT T key).keys.length q3) (.slice o4 (unT T key).kids.length q4)))))
  clear hl2 hf2 hb2 hres hfar hb02 keep
  go_wp2
  exact bodyPost_ret (ret_node Tryz.results72 rfl HE.out.1) rfl ⟨_, _, _, rfl, HE.out.2⟩
end Go.Proofs.YtfmkhogpnnobeaaGreatDoor

/- plain facts on texts that are laid one behind the other by append, and on strings.Join of them. -/
namespace Go.Proofs.YtfmkhogpnnobeaaGreatDoor
open Go Go.RowKit

/-- The texts l, in a row that was made since w. -/
def Txts (w wr : World) (v : Value) (l : List ByteArray) : Prop := wr.ownsRow w.heap.size 9 1 v l.length (l.map Value.string)

section
variable {w wr w1 : World} {v : Value} {l : List ByteArray}

theorem Txts.nil (w wr : World) : Txts w wr (.slice none 0 0) [] := ⟨rfl, .inl ⟨rfl, rfl⟩⟩

theorem Txts.slice (h : Txts w wr v l) : ∃ o c, v = .slice o l.length c := by
  rcases h.2 with ⟨rfl, h0⟩ | ⟨g, cap, cur, rfl, _⟩
  · exact ⟨none, 0, by rw [h0]⟩
  · exact ⟨_, _, rfl⟩

theorem Txts.form (h : Txts w wr v l) (h0 : 0 < l.length) : ∃ g c, v = .slice (some ⟨g, 0, none⟩) l.length c ∧ l.length ≤ c ∧ c ≤ maxLen ∧ w.heap.size ≤ g ∧ g < wr.heap.size := by
  rcases h.2 with ⟨rfl, e0⟩ | ⟨g, cap, cur, rfl, hg, hc, h1, h2, _⟩
  · omega
  · exact ⟨g, cap, rfl, h1, h2, hg, (Array.getElem?_eq_some_iff.1 hc).1⟩

theorem Txts.on (h : Txts w wr v l) (hb : Below wr.heap.size wr w1) : Txts w w1 v l :=
  World.ownsRow.kept (row := none) h ⟨hb.os, hb.tape, hb.output, hb.size, fun k hk _ => hb.block k hk⟩ (by
    rcases v.ownBlock with _ | k
    · exact .inl rfl
    · exact .inr (by simp))

theorem Txts.early {wa : World} (h : Txts wa wr v l) (hs : w.heap.size ≤ wa.heap.size) : Txts w wr v l := by
  refine ⟨h.1, ?_⟩
  rcases h.2 with h2 | ⟨g, cap, cur, hv, hg, r⟩
  · exact .inl h2
  · exact .inr ⟨g, cap, cur, hv, by omega, r⟩

/-- One text more. -/
theorem Txts.more (h : Txts w wr v l) (hs : w.heap.size ≤ wr.heap.size) (b : ByteArray) (hl : l.length < 1000000000) (ty : TypeId) :
    ∃ v' w', (Builtin.append_ #[29, 29] ty #[v, .slice (some ⟨wr.heap.size, 0, none⟩) 1 1]).run Tryz.prog (wr.alloc (.cells #[.string b] 9)) = .ok v' w' ∧
      ∃ o' c', v' = .slice o' (l.length + 1) c' ∧ Txts w w' (.slice o' (l.length + 1) c') (l ++ [b]) ∧ Below w.heap.size wr w' := by
  obtain ⟨i0, hi0, hz0, hz1, hz2⟩ := info_parts info_string
  have hba := (Below.refl wr.heap.size wr).alloc (Nat.le_refl _) (.cells #[.string b] 9)
  have hlast : (wr.alloc (.cells #[.string b] 9)).heap[wr.heap.size]? = some (.cells #[.string b] 9 (0, 0)) := by show (wr.heap.push _)[wr.heap.size]? = _; simp
  have hown := World.ownsRow.alloc h (.cells #[.string b] 9)
  obtain ⟨v', w', hr, h2, h3, -, -⟩ := run_append_own_at (P := Tryz.prog) (wr.alloc (.cells #[.string b] 9)) w.heap.size 29 ty 9 i0 _ 1 16 Tryz.underlying29 hi0 hz0 hz1 hz2 rfl (by decide) v l.length (l.map Value.string) hown
    ⟨wr.heap.size, 0, none⟩ 1 1 [.string b] rfl (World.news_of_block hlast) (by simp [Value.oneCell']) (by unfold maxLen; omega) (by omega) (by have := hba.size; omega)
  have hb : Txts w w' v' (l ++ [b]) := by
    unfold Txts
    rw [List.length_append, List.map_append]
    exact h2
  obtain ⟨o', c', rfl⟩ := hb.slice
  rw [List.length_append, List.length_singleton] at hb hr
  refine ⟨_, w', hr, o', c', rfl, hb, h3.os.trans hba.os, h3.tape.trans hba.tape, h3.output.trans hba.output, Nat.le_trans hba.size h3.size, fun k hk => (h3.block k (by have := hba.size; omega) (fun e => ?_)).trans (hba.block k (by omega))⟩
  have := (World.ownsRow.lt hown k e.symm).1
  omega

theorem Txts.cell {g c : Nat} (h : Txts w wr (.slice (some ⟨g, 0, none⟩) l.length c) l) (j : Nat) (x : ByteArray) (hx : l[j]? = some x) : wr.cell? ⟨g, j, none⟩ = some (.string x) := by
  have hj : j < l.length := (List.getElem?_eq_some_iff.1 hx).1
  rw [World.ownsRow.cellAt h j (by omega), List.getElem?_map, hx]; rfl

/-- One of them put anew. -/
theorem Txts.put {g c : Nat} (h : Txts w wr (.slice (some ⟨g, 0, none⟩) l.length c) l) (j : Nat) (x : ByteArray) : Txts w (wr.setCell ⟨g, j, none⟩ (.string x)) (.slice (some ⟨g, 0, none⟩) l.length c) (l.set j x) := by
  have := (World.ownsRow.stored h j (.string x)).1
  unfold Txts
  rw [List.length_set, List.map_set]
  exact this

theorem Txts.free {g c : Nat} (h : Txts w wr (.slice (some ⟨g, 0, none⟩) l.length c) l) (j : Nat) : wr.frozen? ⟨g, j, none⟩ = false := World.ownsRow.frozenAt h j
end

/-- strings.Join of such a row, with a comma between. -/
theorem join_row {w wr : World} {v : Value} {l : List ByteArray} (h : Txts w wr v l) (hn : l.length ≤ 1000000) (hl : (Lib.join (l.map (·.data.toList)) [44]).length ≤ 1000000000) :
    Calls Tryz.prog 145 #[v, .string ⟨#[44]⟩] wr fun e w' => e = .returned (.string ⟨(Lib.join (l.map (·.data.toList)) [44]).toArray⟩) ∧ Below wr.heap.size wr w' := by
  by_cases h0 : 0 < l.length
  · obtain ⟨g, c, rfl, h1, h2, h3, h4⟩ := h.form h0
    exact Tryz.strings_Join g 0 c l ⟨#[44]⟩ wr (fun j x hx => by rw [Nat.zero_add]; exact h.cell j x hx) h4 (by omega) h1 (by show (Lib.join (l.map (·.data.toList)) [44]).length ≤ _; omega)
  · have : l = [] := List.length_eq_zero_iff.1 (by omega)
    subst this
    obtain ⟨o, c, rfl⟩ := h.slice
    exact (Tryz.strings_Join_none o c ⟨#[44]⟩ wr).mono fun e w' ⟨he, hw⟩ => ⟨by rw [he]; rfl, hw ▸ Below.refl _ _⟩
end Go.Proofs.YtfmkhogpnnobeaaGreatDoor

/- for any text the program's Quote answers as the model's Quote does: empty when it is not right; else its bytes between two marks, with a stroke ahead of a mark or a stroke. -/
namespace Go.Proofs.YtfmkhogpnnobeaaGreatDoor
open Go Go.RowKit

set_option maxRecDepth 100000 in
set_option maxHeartbeats 1000000 in
theorem impl_quote (s : ByteArray) (hm : s.size ≤ maxLen) (w : World) :
    Calls Tryz.prog 144 #[.string s] w fun e w' => e = .returned (.string (quoteT s)) ∧ Below w.heap.size w w' := by
  by_cases hok : textOk s = true
  · have hlen : s.size ≤ 400 := by
      unfold textOk at hok
      simp only [Bool.and_eq_true, decide_eq_true_eq] at hok
      exact hok.1
    have hq : Hid (quoteT s = ⟨(quoteL s.data.toList).toArray⟩) := if_pos hok
    have HT : Hid (∀ (wr : World) (v : Value) (l : List UInt8), Byts w wr v l → (convert 123 9 v).run Tryz.prog wr = .ok (.string ⟨l.toArray⟩) wr) := fun wr v l h => h.text
    have t1 : True := trivial
    go_enter Tryz.func144, Tryz.ntmps144
    go_wp2_with (first
      | (go_at_call 132; refine (impl_textOk s hm _).mono ?_; rintro e w1 ⟨rfl, hb1⟩; subst w1; rw [hok]; clear t1)
      | fail)
    unfold maxLen at hm
    go_loopw [3, 11] (fun v q wr => ∃ (k n : Nat) (o : Option Addr) (c : Nat), k ≤ s.size ∧ n ≤ 1 + 2 * k ∧ v = .slice o n c ∧ q = .int .i64 k ∧ Hid (∃ l : List UInt8, l = [34] ++ escAll (s.data.toList.take k) ∧ l.length = n ∧ Byts w wr (.slice o n c) l ∧ Below w.heap.size w wr)) (fun _ q _ => s.size - (intOf q).toNat)
    case atStart => exact ⟨0, 1, _, 1, Nat.zero_le _, by omega, rfl, rfl, [34], rfl, rfl, Byts.one (Nat.le_refl _) 34, (Below.refl _ w).alloc (Nat.le_refl _) _⟩
    case round =>
      obtain ⟨k, n, o, c, hk, hn, rfl, rfl, hr⟩ := hrel
      obtain ⟨l, hl, hln, hby, hbl⟩ := hr.out
      subst hln
      have HB := Lib.hid (And.intro hby hbl)
      have HLL := Lib.hid hl
      clear hby hbl hr hl
      by_cases hlt : k < s.size
      · have HL : Hid (l ++ esc s[k] = [34] ++ escAll (s.data.toList.take (k + 1))) := by
          show _ = _
          rw [escAll_take hlt, HLL.out, List.append_assoc]
        have hlt' : (k : Int) < (s.size : Int) := by omega
        have t2 : True := trivial
        have HM : Hid (∀ (wr1 : World) (o1 : Option Addr) (n1 c1 : Nat) (l1 : List UInt8) (z : Int) (b : UInt8), z = b.toNat → l1.length = n1 → Byts w wr1 (.slice o1 n1 c1) l1 → Below w.heap.size w wr1 → n1 ≤ 1000 → ∀ ty, ∃ v' w', (Builtin.append_ #[123, 123] ty #[.slice o1 n1 c1, .slice (some ⟨wr1.heap.size, 0, none⟩) 1 1]).run Tryz.prog (wr1.alloc (.cells #[.int .u8 z] 5)) = .ok v' w' ∧ ∃ o' c', v' = .slice o' (n1 + 1) c' ∧ Byts w w' (.slice o' (n1 + 1) c') (l1 ++ [b]) ∧ Below w.heap.size w w') := fun wr1 o1 n1 c1 l1 z b hz hn1 h1 h2 h3 ty => by
          subst hn1 hz
          obtain ⟨v', w', g1, o', c', g2, g3, g4⟩ := h1.more h2.size b (by omega) ty
          exact ⟨v', w', g1, o', c', g2, g3, h2.trans g4⟩
        obtain ⟨b, hb⟩ : ∃ b : UInt8, s[k] = b := ⟨_, rfl⟩
        rw [hb] at HL
        by_cases hq : b = 34 ∨ b = 92
        · have HE : Hid (esc b = [92, b]) := if_pos hq
          have HL2 : Hid ((l ++ [92]) ++ [b] = [34] ++ escAll (s.data.toList.take (k + 1))) := by
            have h1 := HL.out
            rw [HE.out] at h1
            show _ = _
            rw [← h1]
            simp
          clear HL HE
          rcases hq with hq | hq
          · subst hq
            have e1 : ((s[k].toNat : Int) == 34) = true := by rw [hb]; rfl
            go_wp2_with (first
              | (at_builtin; clear t2; refine list_append rfl _ _ 123 rfl _ _ rfl rfl (HM.out _ o l.length c l 92 92 rfl rfl HB.out.1 HB.out.2 (by omega) _) ?_; rintro v2 w2 ⟨o2, c2, rfl, h1, h2⟩; have H2 := Lib.hid (And.intro h1 h2); clear h1 h2)
              | (at_builtin; refine list_append rfl _ _ 123 rfl _ _ rfl rfl (HM.out _ o2 (l.length + 1) c2 (l ++ [92]) 34 34 rfl (by simp) H2.out.1 H2.out.2 (by omega) _) ?_; rintro v3 w3 ⟨o3, c3, rfl, h1, h2⟩; have H3 := Lib.hid (And.intro h1 h2); clear h1 h2)
              | fail)
            exact ⟨⟨k + 1, l.length + 1 + 1, o3, c3, hlt, by omega, rfl, by go_num, _, HL2.out, by simp, H3.out.1, H3.out.2⟩, by simp [intOf]; omega⟩
          · subst hq
            have e1 : ((s[k].toNat : Int) == 34) = false := by rw [hb]; rfl
            have e2 : ((s[k].toNat : Int) == 92) = true := by rw [hb]; rfl
            go_wp2_with (first
              | (at_builtin; clear t2; refine list_append rfl _ _ 123 rfl _ _ rfl rfl (HM.out _ o l.length c l 92 92 rfl rfl HB.out.1 HB.out.2 (by omega) _) ?_; rintro v2 w2 ⟨o2, c2, rfl, h1, h2⟩; have H2 := Lib.hid (And.intro h1 h2); clear h1 h2)
              | (at_builtin; refine list_append rfl _ _ 123 rfl _ _ rfl rfl (HM.out _ o2 (l.length + 1) c2 (l ++ [92]) 92 92 rfl (by simp) H2.out.1 H2.out.2 (by omega) _) ?_; rintro v3 w3 ⟨o3, c3, rfl, h1, h2⟩; have H3 := Lib.hid (And.intro h1 h2); clear h1 h2)
              | fail)
            exact ⟨⟨k + 1, l.length + 1 + 1, o3, c3, hlt, by omega, rfl, by go_num, _, HL2.out, by simp, H3.out.1, H3.out.2⟩, by simp [intOf]; omega⟩
        · have HE : Hid (esc b = [b]) := if_neg hq
          have e1 : ((b.toNat : Int) == 34) = false := by simpa using u8_ne (fun h => hq (.inl h))
          have e2 : ((b.toNat : Int) == 92) = false := by simpa using u8_ne (fun h => hq (.inr h))
          go_wp2_with (first
            | (at_builtin; refine list_append rfl _ _ 123 rfl _ _ rfl rfl (HM.out _ o l.length c l _ b rfl rfl HB.out.1 HB.out.2 (by omega) _) ?_; rintro v2 w2 ⟨o2, c2, rfl, h1, h2⟩; have H2 := Lib.hid (And.intro h1 h2); clear h1 h2)
            | fail)
          have HF : Hid (l ++ [b] = [34] ++ escAll (s.data.toList.take (k + 1))) := by
            have h1 := HL.out
            rw [HE.out] at h1
            exact h1
          exact ⟨⟨k + 1, l.length + 1, o2, c2, hlt, by omega, rfl, by go_num, l ++ [b], HF.out, by simp, H2.out.1, H2.out.2⟩, by simp [intOf]; omega⟩
      · have e : k = s.size := by omega
        subst e
        have HM : Hid (∀ ty, ∃ v' w', (Builtin.append_ #[123, 123] ty #[.slice o l.length c, .slice (some ⟨wr.heap.size, 0, none⟩) 1 1]).run Tryz.prog (wr.alloc (.cells #[.int .u8 34] 5)) = .ok v' w' ∧ ∃ o' c', v' = .slice o' (l.length + 1) c' ∧ Byts w w' (.slice o' (l.length + 1) c') (l ++ [34]) ∧ Below w.heap.size w w') := fun ty => by
          obtain ⟨v', w', g1, o', c', g2, g3, g4⟩ := HB.out.1.more HB.out.2.size 34 (by omega) ty
          exact ⟨v', w', g1, o', c', g2, g3, HB.out.2.trans g4⟩
        have HQ : Hid (quoteT s = ⟨(l ++ [34]).toArray⟩) := by
          have h1 := hq.out
          have h2 := HLL.out
          rw [List.take_of_length_le (by simp)] at h2
          show _ = _
          rw [h1, h2]
          rfl
        go_wp2_with (first
          | (at_builtin; refine list_append rfl _ _ 123 rfl _ _ rfl rfl (HM.out _) ?_; rintro v2 w2 ⟨o2, c2, rfl, h1, h2⟩; have H2 := Lib.hid (And.intro h1 h2); have ht := HT.out _ _ _ h1; clear h1 h2)
          | fail)
        go_ret
        exact ⟨by rw [HQ.out]; rfl, H2.out.2⟩
  · have hq : Hid (quoteT s = ⟨#[]⟩) := if_neg hok
    have hok' : textOk s = false := by simpa using hok
    go_enter Tryz.func144, Tryz.ntmps144
    go_wp2_with (first
      | (go_at_call 132; refine (impl_textOk s hm _).mono ?_; rintro e w1 ⟨rfl, hb1⟩; subst w1; rw [hok'])
      | fail)
    go_ret
    exact ⟨by rw [hq.out]; rfl, Below.refl _ _⟩

end Go.Proofs.YtfmkhogpnnobeaaGreatDoor

/- the program's roomBehind tells how many of the nodes that there is room for are left behind a tree; its TreeOk whether a tree is right, not too deep and not too great. -/
namespace Go.Proofs.YtfmkhogpnnobeaaGreatDoor
open Go Go.RowKit

/-- A tree fits: right, so deep at most, so many nodes at most. -/
def FitsK (T : RT) (d r : Nat) : Prop := T.deep ≤ d ∧ T.size ≤ r ∧ T.right = true

def RoomAt (T : RT) : Prop := ∀ (w : World) (kv dv : Value) (F : List Nat), Lies w T kv dv F → ∀ d r : Nat, d ≤ 8 → r ≤ 200 →
  Calls Tryz.prog 141 #[T.val kv dv, .int .i64 d, .int .i64 r] w fun e w' => ((FitsK T d r ∧ e = .returned (.tuple #[.int .i64 (r - T.size : Nat), .bool true])) ∨ (¬ FitsK T d r ∧ e = .returned (.tuple #[.int .i64 0, .bool false]))) ∧ Below w.heap.size w w'

theorem fits_head {T : RT} {d r : Nat} (h : FitsK T d r) : 0 < d ∧ 0 < r ∧ headOk T = true := by
  obtain ⟨h1, h2, h3⟩ := h
  obtain ⟨k, n, s, keys, kids⟩ := T
  rw [RT.deep] at h1
  rw [RT.size] at h2
  rw [RT.right, Bool.and_eq_true] at h3
  exact ⟨by omega, by omega, h3.1⟩

theorem fits_kid {k n : Int} {s : ByteArray} {keys : List ByteArray} {kids : List RT} {d r j : Nat} (h : FitsK (.node k n s keys kids) d r) (hj : j < kids.length) : FitsK kids[j] (d - 1) (r - 1 - sizeAll (kids.take j)) := by
  obtain ⟨h1, h2, h3⟩ := h
  rw [RT.deep] at h1
  rw [RT.size] at h2
  rw [RT.right, Bool.and_eq_true, rightAll_iff] at h3
  have e1 := deepAll_take kids j hj
  have e2 := deepAll_take_le kids (j + 1)
  have e3 := sizeAll_take kids j hj
  have e4 := sizeAll_take_le kids (j + 1)
  exact ⟨by omega, by omega, h3.2 j hj⟩

theorem fits_all {k n : Int} {s : ByteArray} {keys : List ByteArray} {kids : List RT} {d r : Nat} (h0 : 0 < d) (h1 : 0 < r) (hh : headOk (.node k n s keys kids) = true) (hd : deepAll kids ≤ d - 1) (hs : sizeAll kids ≤ r - 1) (hr : ∀ i (h : i < kids.length), kids[i].right = true) : FitsK (.node k n s keys kids) d r := by
  refine ⟨by rw [RT.deep]; omega, by rw [RT.size]; omega, ?_⟩
  rw [RT.right, hh, Bool.true_and, rightAll_iff]
  exact hr

set_option maxRecDepth 100000 in
set_option maxHeartbeats 1600000 in
theorem impl_room (T : RT) : RoomAt T := by
  induction T using RT.ind with
  | h k n s keys kids ih =>
    intro w kv dv F hl d r hd hr
    have HN := Lib.hid fun (wr : World) (hb : Below w.heap.size w wr) => impl_nodeOk (.node k n s keys kids) wr kv dv F (hl.stay hb (Nat.le_refl _))
    obtain ⟨-, -, -, FK, FD, -, hD, -⟩ := hl.outn
    obtain ⟨o, cap, b, off, FF, KV, DV, rfl, hlc, hcm, ho, -, hcell, hlies, -⟩ := hD
    have HX := Lib.hid (Box.start w (.int .i64 k) (.int .i64 n) (.string s) kv (.slice o kids.length cap) 32)
    have HC := Lib.hid hcell
    have HL := Lib.hid hlies
    have HO := Lib.hid ho
    clear hcell hlies ho hl
    unfold maxLen at hcm
    show Calls Tryz.prog 141 #[.agg #[.int .i64 k, .int .i64 n, .string s, kv, .slice o kids.length cap], .int .i64 d, .int .i64 r] w _
    by_cases d0 : d = 0
    · have hnf : Hid (¬ FitsK (.node k n s keys kids) d r) := fun h => by have := (fits_head h).1; omega
      subst d0
      go_enter Tryz.func141, Tryz.ntmps141
      go_wp2
      go_ret2
      exact ⟨.inr ⟨hnf.out, rfl⟩, (Below.refl _ w).alloc (Nat.le_refl _) _⟩
    by_cases r0 : r = 0
    · have hnf : Hid (¬ FitsK (.node k n s keys kids) d r) := fun h => by have := (fits_head h).2.1; omega
      have d1 : ¬ (d : Int) = 0 := by omega
      subst r0
      go_enter Tryz.func141, Tryz.ntmps141
      go_wp2
      go_ret2
      exact ⟨.inr ⟨hnf.out, rfl⟩, (Below.refl _ w).alloc (Nat.le_refl _) _⟩
    have d1 : ((d : Int) == 0) = false := by simp; omega
    have r1 : ((r : Int) == 0) = false := by simp; omega
    by_cases hh : headOk (.node k n s keys kids) = true
    · rw [hh] at HN
      go_enter Tryz.func141, Tryz.ntmps141
      go_wp2_with (first
        | (go_at_call 168; refine (HN.out _ HX.out.below).mono ?_; rintro e w1 ⟨rfl, hb1⟩; have HX1 := Lib.hid (HX.out.next hb1); obtain ⟨-, -, x0, x1, x2, x3, x4⟩ := HX1.out; clear hb1)
        | fail)
      go_loopw [2, 28] (fun m i wr => ∃ j : Nat, j ≤ kids.length ∧ i = .int .i64 j ∧ m = .int .i64 (r - 1 - sizeAll (kids.take j) : Nat) ∧ Hid (deepAll (kids.take j) ≤ d - 1 ∧ sizeAll (kids.take j) ≤ r - 1 ∧ ∀ i (h : i < kids.length), i < j → kids[i].right = true) ∧ Hid (Below w.heap.size w wr)) (fun _ i _ => kids.length - (intOf i).toNat)
      case atStart => exact ⟨0, Nat.zero_le _, rfl, by simp [sizeAll]; omega, ⟨by simp [deepAll], by simp [sizeAll], fun i _ h => absurd h (by omega)⟩, HX1.out.below⟩
      case round =>
        obtain ⟨j, hj, rfl, rfl, hr, hb⟩ := hrel
        by_cases hlt : j < kids.length
        · have ho := HO.out (by omega)
          subst ho
          obtain ⟨c0, c1, c2, c3, c4⟩ := kid_cells (HC.out j hlt) hb.out
          obtain ⟨⟨o1, q1, s1⟩, ⟨o2, q2, s2⟩⟩ := (HL.out j hlt).slices
          have HI := Lib.hid (fun (w1 : World) (hb1 : Below w.heap.size w w1) => ih _ (List.getElem_mem hlt) w1 _ _ _ ((HL.out j hlt).stay hb1 (Nat.le_refl _)) (d - 1) (r - 1 - sizeAll (kids.take j)) (by omega) (by omega))
          have HE := Lib.hid (And.intro (deepAll_take kids j hlt) (sizeAll_take kids j hlt))
          have HF := Lib.hid (fun h : FitsK (.node k n s keys kids) d r => fits_kid h hlt)
          have HY : Hid (kids[j].right = true → ∀ i (h : i < kids.length), i < j + 1 → kids[i].right = true) := fun h i hi hij => by
            by_cases e : i = j
            · subst e; exact h
            · exact hr.out.2.2 i hi (by omega)
          have hB1 : Hid (∀ ob, Below w.heap.size w (wr.alloc ob)) := fun ob => hb.out.alloc hb.out.size _
          have ed : ((d : Int) - 1) = ((d - 1 : Nat) : Int) := by omega
          generalize kids[j] = x at *
          generalize KV j = v1 at *
          generalize DV j = v2 at *
          subst s1 s2
          generalize hq : r - 1 - sizeAll (kids.take j) = q at *
          have HQ := Lib.hid hq
          clear hq
          go_wp2_with fail
          refine (HI.out _ (hB1.out _)).mono ?_
          rintro e w2 ⟨hor, hb2⟩
          have HB2 := Lib.hid ((hB1.out _).trans (hb2.mono (hB1.out _).size))
          clear hb2
          rcases hor with ⟨hf, rfl⟩ | ⟨hf, rfl⟩
          · have HFt := Lib.hid hf
            clear hf
            go_wp2
            obtain ⟨f1, f2, f3⟩ := HFt.out
            obtain ⟨g1, g2⟩ := HE.out
            obtain ⟨u1, u2, -⟩ := hr.out
            have := HQ.out
            refine ⟨⟨j + 1, by omega, by go_num, ?_, ⟨by omega, by omega, HY.out f3⟩, HB2.out⟩, by simp [intOf]; omega⟩
            congr 1; omega
          · have HFt := Lib.hid (fun h => hf (HF.out h))
            clear hf
            go_wp2
            go_ret2
            exact ⟨.inr ⟨HFt.out, rfl⟩, HB2.out⟩
        · have e : kids.take j = kids := List.take_of_length_le (by omega)
          have HFt : Hid (FitsK (.node k n s keys kids) d r) := by
            have := hr.out
            rw [e] at this
            exact fits_all (by omega) (by omega) hh this.1 this.2.1 (fun i h => this.2.2 i h (by omega))
          rw [e]
          go_wp2
          go_ret2
          refine ⟨.inl ⟨HFt.out, ?_⟩, hb.out⟩
          rw [RT.size]
          exact congrArg (fun z => Ending.returned (.tuple #[.int .i64 z, .bool true])) (by omega)
    · have hh' : headOk (.node k n s keys kids) = false := by simpa using hh
      have hnf : Hid (¬ FitsK (.node k n s keys kids) d r) := fun h => hh (fits_head h).2.2
      rw [hh'] at HN
      go_enter Tryz.func141, Tryz.ntmps141
      go_wp2_with (first
        | (go_at_call 168; refine (HN.out _ HX.out.below).mono ?_; rintro e w1 ⟨rfl, hb1⟩; have HB := Lib.hid (HX.out.next hb1).below; clear hb1)
        | fail)
      go_ret2
      exact ⟨.inr ⟨hnf.out, rfl⟩, HB.out⟩
end Go.Proofs.YtfmkhogpnnobeaaGreatDoor

/- for any tree the program's TreeOk answers as the model's TreeOk does, and the law returns true with its argument as it was; no condition. -/
namespace Go.Proofs.YtfmkhogpnnobeaaGreatDoor
open Go Go.RowKit

theorem treeOk_fits (T : RT) : treeOk T = true ↔ FitsK T 8 200 := by
  unfold treeOk FitsK
  simp [Bool.and_eq_true, and_assoc]

set_option maxRecDepth 100000 in
set_option maxHeartbeats 400000 in
theorem impl_treeOk (T : RT) (w : World) (kv dv : Value) (F : List Nat) (hl : Lies w T kv dv F) :
    Calls Tryz.prog 113 #[.agg #[.int .i64 T.k, .int .i64 T.n, .string T.s, kv, dv]] w fun e w' => e = .returned (.bool (treeOk T)) ∧ Below w.heap.size w w' := by
  have HX := Lib.hid (Box.start w (.int .i64 T.k) (.int .i64 T.n) (.string T.s) kv dv 32)
  have HR := Lib.hid (impl_room T _ _ _ _ (hl.stay HX.out.below (Nat.le_refl _)) 8 200 (by omega) (by omega))
  clear hl
  go_enter Tryz.func113, Tryz.ntmps113
  go_wp2_with fail
  refine HR.out.mono ?_
  rintro e w1 ⟨hor, hb1⟩
  have HB := Lib.hid (HX.out.next hb1).below
  clear hb1
  rcases hor with ⟨hf, rfl⟩ | ⟨hf, rfl⟩
  · have HF := Lib.hid ((treeOk_fits T).2 hf)
    clear hf
    go_wp2
    go_ret
    exact ⟨by rw [HF.out]; rfl, HB.out⟩
  · have HF : Hid (treeOk T = false) := by
      show treeOk T = false
      rw [← Bool.not_eq_true, treeOk_fits]
      exact hf
    clear hf
    go_wp2
    go_ret
    exact ⟨by rw [HF.out]; rfl, HB.out⟩

end Go.Proofs.YtfmkhogpnnobeaaGreatDoor
